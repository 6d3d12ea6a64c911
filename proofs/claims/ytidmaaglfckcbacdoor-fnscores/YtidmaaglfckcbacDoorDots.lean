/- ROWS OF DOTS (two numbers each). THE LAWS' OWN READERS OVER THEM: szDotS, toDotS, eqDotS (of two that are alike), markDotS, heldDotS, likeDots. -/
import Derived.Test.YtidmaaglfckcbacDoorRowg
import Derived.Deep.RegionWith
import Derived.Deep.RegionHeld
import Derived.Deep.LoopGhost
namespace Go.Proofs.YtidmaaglfckcbacDoor
open Go.RowKit
set_option linter.unusedVariables false
abbrev Dt := Int × Int
abbrev dt0 : Dt := (0, 0)
def dtf (p : Dt) : List Value := [.int .i64 p.1, .int .i64 p.2]
theorem dtW : Wid dtf 2 := ⟨by decide, fun x => rfl, fun x u hu => by
  simp only [dtf, List.mem_cons, List.mem_nil_iff, or_false] at hu
  rcases hu with rfl | rfl <;> rfl⟩
theorem getD_dt {l : List Dt} {j : Nat} (h : j < l.length) : l.getD j dt0 = l[j] := by simp [List.getD, h]
/-- the two cells of a dot -/
theorem dt_cells {b off : Nat} {l : List Dt} {w : World} (h : CellsG dtf 2 b off l w) {j : Nat} (hj : j < l.length) : w.cell? ⟨b, off + j * 2, none⟩ = some (.int .i64 (l.getD j dt0).1) ∧ w.cell? ⟨b, off + j * 2 + 1, none⟩ = some (.int .i64 (l.getD j dt0).2) := by
  rw [getD_dt hj]
  exact ⟨h j hj 0 _ rfl, h j hj 1 _ rfl⟩
theorem dt_cells0 {b : Nat} {l : List Dt} {w : World} (h : CellsG dtf 2 b 0 l w) {j : Nat} (hj : j < l.length) : w.cell? ⟨b, j * 2, none⟩ = some (.int .i64 (l.getD j dt0).1) ∧ w.cell? ⟨b, j * 2 + 1, none⟩ = some (.int .i64 (l.getD j dt0).2) := by
  have h9 := dt_cells h hj
  rw [Nat.zero_add] at h9
  exact h9
theorem dt_set (l : List Dt) (i : Nat) (p : Dt) (h : i < l.length) : ((rowC dtf l).set (i * 2) (.int .i64 p.1)).set (i * 2 + 1) (.int .i64 p.2) = rowC dtf (l.set i p) := by
  have e1 := rowC_set dtW l i h 0 (.int .i64 p.1) (p.1, l[i].2) (by decide) rfl
  have e2 := rowC_set dtW (l.set i (p.1, l[i].2)) i (by rw [List.length_set]; exact h) 1 (.int .i64 p.2) p (by decide) (by rw [List.getElem_set_self]; rfl)
  rw [Nat.add_zero] at e1
  rw [e1, e2, List.set_set]
theorem ret_boolD {a b : Bool} (h : a = b) : Ending.returned (.bool a) = .returned (.bool b) := by rw [h]
abbrev dtZ : Dt := (0, 0)
theorem made_dots (n : Nat) : (madeCells (Value.agg #[.int .i64 0, .int .i64 0]).cells (n * 2)).toList = rowC dtf (List.replicate n dtZ) := by
  have e : ∀ m, (madeCells (Value.agg #[.int .i64 0, .int .i64 0]).cells m).toList = (List.range m).map fun i => (#[Value.int .i64 0, Value.int .i64 0])[i % 2]! := fun m => by simp [madeCells, Value.cells]
  rw [e]
  induction n with
  | zero => rfl
  | succ n ih =>
    rw [show (n + 1) * 2 = n * 2 + 1 + 1 by omega, List.range_succ, List.range_succ, List.map_append, List.map_append, ih, List.replicate_succ', rowC_append, List.append_assoc]
    congr 1
    simp only [List.map_cons, List.map_nil, show n * 2 % 2 = 0 by omega, show (n * 2 + 1) % 2 = 1 by omega]
    rfl
theorem copied_dt {l : List Dt} {n k : Nat} (h : k < l.length) (hn : k < n) (z : Dt) : (l.take k ++ List.replicate (n - k) z).set k (l.getD k dt0) = l.take (k + 1) ++ List.replicate (n - (k + 1)) z := by
  have e1 : n - k = (n - (k + 1)) + 1 := by omega
  have e2 : (l.take k).length = k := by rw [List.length_take]; omega
  rw [e1, List.replicate_succ, List.set_append_right _ _ (by omega), e2, Nat.sub_self, List.set_cons_zero, List.take_succ_eq_append_getElem h, List.append_assoc]
  simp [List.getD, h]
theorem Tryd.infoDt : (Tryd.prog.info? 56).map (fun i => (i.zero, i.size, i.bytes)) = some (some (.agg #[.int .i64 0, .int .i64 0]), 2, 16) := by kernel_rfl
abbrev OwnD (w : World) (B : Nat) (v : Value) (l : List Dt) : Prop := OwnG dtf 2 56 w B v l
/-- what markDotS lays from m on -/
def marksDt (m n : Nat) : List Dt := (List.range n).map fun (j : Nat) => (((m + 2 * j : Nat) : Int), ((m + 2 * j + 1 : Nat) : Int))
theorem marksDt_len (m n : Nat) : (marksDt m n).length = n := by simp [marksDt]
theorem marksDt_succ (m k : Nat) : marksDt m (k + 1) = marksDt m k ++ [(((m + 2 * k : Nat) : Int), ((m + 2 * k + 1 : Nat) : Int))] := by simp [marksDt, List.range_succ]
theorem marksDt_get {m n j : Nat} (h : j < n) : (marksDt m n).getD j dt0 = (((m + 2 * j : Nat) : Int), ((m + 2 * j + 1 : Nat) : Int)) := by simp [marksDt, List.getD, h]
theorem marksDt_step (m k : Nat) (xs : List Dt) (h : k < xs.length) : (marksDt m k ++ xs.drop k).set k (((m + 2 * k : Nat) : Int), ((m + 2 * k + 1 : Nat) : Int)) = marksDt m (k + 1) ++ xs.drop (k + 1) := by
  rw [List.drop_eq_getElem_cons h, marksDt_succ, List.set_append_right _ _ (by rw [marksDt_len]; exact Nat.le_refl _), marksDt_len, Nat.sub_self, List.set_cons_zero, List.append_assoc]
  rfl

set_option maxHeartbeats 2000000 in
set_option maxRecDepth 100000 in
theorem likeDots_any (va vb : Value) (xs ys : List Dt) (w : World) (ha : RdG dtf 2 w va xs) (hb : RdG dtf 2 w vb ys) (hl : xs.length ≤ 1048576) (hl2 : ys.length ≤ 1048576) :
    Calls Tryd.prog 15 #[va, vb] w fun e w' => e = .returned (.bool (decide (xs = ys))) ∧ Below w.heap.size w w' := by
  by_cases hne : xs.length = ys.length
  rotate_left
  focus
    have e : decide (xs = ys) = false := decide_eq_false (fun e => hne (by rw [e]))
    rw [e]
    obtain ⟨ao, cap, rfl⟩ := rdG_shape ha
    obtain ⟨bo, bcap, rfl⟩ := rdG_shape hb
    have hI : ((xs.length : Int) == (ys.length : Int)) = false := beq_eq_false_iff_ne.2 (fun e => hne (by omega))
    have hJ : ¬ (xs.length : Int) = (ys.length : Int) := by omega
    clear e ha hb
    go_enter Tryd.func15, Tryd.ntmps15
    go_wp2
    go_ret
    exact ⟨rfl, Below.refl _ _⟩
  rcases rdG_cases ha with ⟨h0, ao, cap, rfl⟩ | ⟨hp, b, off, cap, rfl, _, hlt, hc⟩
  · subst h0
    have hy : ys = [] := List.eq_nil_of_length_eq_zero hne.symm
    subst hy
    obtain ⟨bo, bcap, rfl⟩ := rdG_shape hb
    rw [decide_eq_true rfl]
    clear ha hb
    go_enter Tryd.func15, Tryd.ntmps15
    go_wp2
    refine wp_loop_rounds 1 ?_
    rw [rounds_succ]
    go_wp2
    go_ret
    exact ⟨rfl, Below.refl _ _⟩
  · rcases rdG_cases hb with ⟨h0, ao, cap', rfl⟩ | ⟨_, b', off', cap', rfl, _, hlt', hc'⟩
    · rw [h0] at hne; simp only [List.length_nil] at hne; omega
    · have HA : Hid (∀ j, j < xs.length → w.cell? ⟨b, off + j * 2, none⟩ = some (.int .i64 (xs.getD j dt0).1) ∧ w.cell? ⟨b, off + j * 2 + 1, none⟩ = some (.int .i64 (xs.getD j dt0).2)) := fun j hj => dt_cells hc hj
      have HB : Hid (∀ j, j < ys.length → w.cell? ⟨b', off' + j * 2, none⟩ = some (.int .i64 (ys.getD j dt0).1) ∧ w.cell? ⟨b', off' + j * 2 + 1, none⟩ = some (.int .i64 (ys.getD j dt0).2)) := fun j hj => dt_cells hc' hj
      obtain ⟨n, hn⟩ : ∃ n, n = xs.length := ⟨_, rfl⟩
      rw [← hne, ← hn] at HB
      rw [← hne, ← hn]
      rw [← hn] at hl hp HA
      have HYES : Hid ((∀ j, j < n → xs.getD j dt0 = ys.getD j dt0) → decide (xs = ys) = true) := fun h => decide_eq_true (by
        refine List.ext_getElem hne fun i h1 h2 => ?_
        have h9 := h i (by omega)
        rwa [getD_dt h1, getD_dt h2] at h9)
      have HNO : Hid (∀ j, j < n → xs.getD j dt0 ≠ ys.getD j dt0 → decide (xs = ys) = false) := fun j _ h => decide_eq_false (fun e => h (by rw [e]))
      generalize decide (xs = ys) = r at HYES HNO ⊢
      clear hc hc' hp hn ha hb hne hl2
      go_enter Tryd.func15, Tryd.ntmps15
      go_wp2
      go_loopw [5] (fun i wr => ∃ k d : Nat, k ≤ n ∧ i = .int .i64 k ∧ wr = w.drewN d ∧ Hid (∀ j, j < k → xs.getD j dt0 = ys.getD j dt0)) (fun i _ => n - (intOf i).toNat)
      case atStart => exact ⟨0, 0, Nat.zero_le _, rfl, rfl, fun j h => by omega⟩
      case round =>
        obtain ⟨k, d, hk, rfl, rfl, hsame⟩ := hrel
        by_cases hltk : k < n
        · obtain ⟨d0, d1⟩ := HA.out k hltk
          obtain ⟨d2, d3⟩ := HB.out k hltk
          have HNk := Lib.hid (HNO.out k hltk)
          have hnew : Hid (xs.getD k dt0 = ys.getD k dt0 → ∀ j, j < k + 1 → xs.getD j dt0 = ys.getD j dt0) := fun e j hj => by
            rcases Nat.lt_or_ge j k with g | g
            · exact hsame.out j g
            · obtain rfl : j = k := by omega
              exact e
          obtain ⟨x, hxx⟩ : ∃ x, x = xs.getD k dt0 := ⟨_, rfl⟩
          obtain ⟨y, hyy⟩ : ∃ y, y = ys.getD k dt0 := ⟨_, rfl⟩
          rw [← hxx] at d0 d1 HNk hnew
          rw [← hyy] at d2 d3 HNk hnew
          clear hxx hyy hsame
          have hltI : (k : Int) < (n : Int) := by omega
          by_cases hxy : x = y
          focus
            subst hxy
            obtain ⟨x1, x2⟩ := x
            have HS := Lib.hid (hnew.out rfl)
            clear hnew HNk
            go_wp2
            go_quiet (fail)
            go_wp2
            go_roundw
            case rel => exact ⟨k + 1, _, by omega, by go_num, rfl, HS⟩
            case measure => simp [intOf]; omega
          have HR := Lib.hid (HNk.out hxy)
          obtain ⟨x1, x2⟩ := x
          obtain ⟨y1, y2⟩ := y
          clear hnew HNk
          by_cases h1 : x1 = y1
          focus
            subst h1
            have h2 : ¬ x2 = y2 := fun e => hxy (by rw [e])
            have h2d : (x2 == y2) = false := by simp [h2]
            go_wp2
            go_quiet (fail)
            go_wp2
            go_ret
            exact ⟨ret_boolD HR.out.symm, by first | exact below_drewN (Below.refl _ _) _ | exact below_drewN (below_drewN (Below.refl _ _) _) _⟩
          have h1b : (x1 == y1) = false := by simp [h1]
          go_wp2
          go_quiet (fail)
          go_wp2
          go_ret
          exact ⟨ret_boolD HR.out.symm, by first | exact below_drewN (Below.refl _ _) _ | exact below_drewN (below_drewN (Below.refl _ _) _) _⟩
        · have HR := Lib.hid (HYES.out (fun j hj => hsame.out j (by omega)))
          go_wp2
          go_ret
          exact ⟨ret_boolD HR.out.symm, by first | exact below_drewN (Below.refl _ _) _ | exact below_drewN (below_drewN (Below.refl _ _) _) _⟩
end Go.Proofs.YtidmaaglfckcbacDoor
