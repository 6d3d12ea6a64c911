/- ROWS OF DOTS (two numbers each). THE LAWS' OWN READERS OVER THEM: szDotS, toDotS, eqDotS (of two that are alike), markDotS, heldDotS, likeDots. -/
import Derived.Test.YtidmaaglfckcbaoDoorRowg
import Derived.Deep.RegionWith
import Derived.Deep.RegionHeld
import Derived.Deep.LoopGhost
namespace Go.Proofs.YtidmaaglfckcbaoDoor
open Go.RowKit
set_option linter.unusedVariables false
abbrev Dt := Int × Int
abbrev dt0 : Dt := (0, 0)
def dtf (p : Dt) : List Value := [.int .i64 p.1, .int .i64 p.2]
theorem dtW : Wid dtf 2 := ⟨by decide, fun x => rfl, fun x u hu => by
  simp only [dtf, List.mem_cons, List.mem_nil_iff, or_false] at hu
  rcases hu with rfl | rfl <;> rfl⟩
theorem getD_dt {l : List Dt} {j : Nat} (h : j < l.length) : l.getD j dt0 = l[j] := by simp [List.getD, h]
/-- the two cells of a dot -/
theorem dt_cells {b off : Nat} {l : List Dt} {w : World} (h : CellsG dtf 2 b off l w) {j : Nat} (hj : j < l.length) : w.cell? ⟨b, off + j * 2, none⟩ = some (.int .i64 (l.getD j dt0).1) ∧ w.cell? ⟨b, off + j * 2 + 1, none⟩ = some (.int .i64 (l.getD j dt0).2) := by
  rw [getD_dt hj]
  exact ⟨h j hj 0 _ rfl, h j hj 1 _ rfl⟩
theorem dt_cells0 {b : Nat} {l : List Dt} {w : World} (h : CellsG dtf 2 b 0 l w) {j : Nat} (hj : j < l.length) : w.cell? ⟨b, j * 2, none⟩ = some (.int .i64 (l.getD j dt0).1) ∧ w.cell? ⟨b, j * 2 + 1, none⟩ = some (.int .i64 (l.getD j dt0).2) := by
  have h9 := dt_cells h hj
  rw [Nat.zero_add] at h9
  exact h9
theorem dt_set (l : List Dt) (i : Nat) (p : Dt) (h : i < l.length) : ((rowC dtf l).set (i * 2) (.int .i64 p.1)).set (i * 2 + 1) (.int .i64 p.2) = rowC dtf (l.set i p) := by
  have e1 := rowC_set dtW l i h 0 (.int .i64 p.1) (p.1, l[i].2) (by decide) rfl
  have e2 := rowC_set dtW (l.set i (p.1, l[i].2)) i (by rw [List.length_set]; exact h) 1 (.int .i64 p.2) p (by decide) (by rw [List.getElem_set_self]; rfl)
  rw [Nat.add_zero] at e1
  rw [e1, e2, List.set_set]
theorem ret_boolD {a b : Bool} (h : a = b) : Ending.returned (.bool a) = .returned (.bool b) := by rw [h]
abbrev dtZ : Dt := (0, 0)
theorem made_dots (n : Nat) : (madeCells (Value.agg #[.int .i64 0, .int .i64 0]).cells (n * 2)).toList = rowC dtf (List.replicate n dtZ) := by
  have e : ∀ m, (madeCells (Value.agg #[.int .i64 0, .int .i64 0]).cells m).toList = (List.range m).map fun i => (#[Value.int .i64 0, Value.int .i64 0])[i % 2]! := fun m => by simp [madeCells, Value.cells]
  rw [e]
  induction n with
  | zero => rfl
  | succ n ih =>
    rw [show (n + 1) * 2 = n * 2 + 1 + 1 by omega, List.range_succ, List.range_succ, List.map_append, List.map_append, ih, List.replicate_succ', rowC_append, List.append_assoc]
    congr 1
    simp only [List.map_cons, List.map_nil, show n * 2 % 2 = 0 by omega, show (n * 2 + 1) % 2 = 1 by omega]
    rfl
theorem copied_dt {l : List Dt} {n k : Nat} (h : k < l.length) (hn : k < n) (z : Dt) : (l.take k ++ List.replicate (n - k) z).set k (l.getD k dt0) = l.take (k + 1) ++ List.replicate (n - (k + 1)) z := by
  have e1 : n - k = (n - (k + 1)) + 1 := by omega
  have e2 : (l.take k).length = k := by rw [List.length_take]; omega
  rw [e1, List.replicate_succ, List.set_append_right _ _ (by omega), e2, Nat.sub_self, List.set_cons_zero, List.take_succ_eq_append_getElem h, List.append_assoc]
  simp [List.getD, h]
theorem Tryd.infoDt : (Tryd.prog.info? 38).map (fun i => (i.zero, i.size, i.bytes)) = some (some (.agg #[.int .i64 0, .int .i64 0]), 2, 16) := by kernel_rfl
abbrev OwnD (w : World) (B : Nat) (v : Value) (l : List Dt) : Prop := OwnG dtf 2 38 w B v l
theorem eqDot_same (a b : Int) (w : World) :
    Calls Tryd.prog 22 #[.agg #[.int .i64 a, .int .i64 b], .agg #[.int .i64 a, .int .i64 b]] w fun e w' => e = .returned (.bool true) ∧ Below w.heap.size w w' := by
  have hb := ((Below.refl w.heap.size w).alloc (Nat.le_refl _) (.cells #[.int .i64 a, .int .i64 b] 38)).alloc (by simp) (.cells #[.int .i64 a, .int .i64 b] 38)
  go_enter Tryd.func22, Tryd.ntmps22
  go_wp2
  go_ret
  exact ⟨by first | rfl | simp, hb⟩
set_option maxHeartbeats 1000000 in
set_option maxRecDepth 100000 in
theorem eqDotS_same (va vb : Value) (xs : List Dt) (w : World) (ha : RdG dtf 2 w va xs) (hb : RdG dtf 2 w vb xs) (hl : xs.length ≤ 1048576) :
    Calls Tryd.prog 8 #[va, vb] w fun e w' => e = .returned (.bool true) ∧ Below w.heap.size w w' := by
  rcases rdG_cases ha with ⟨h0, ao, cap, rfl⟩ | ⟨hp, b, off, cap, rfl, _, hlt, hc⟩
  · subst h0
    obtain ⟨bo, bcap, rfl⟩ := rdG_shape hb
    go_enter Tryd.func8, Tryd.ntmps8
    go_wp2
    refine wp_loop_rounds 1 ?_
    rw [rounds_succ]
    go_wp2
    go_ret
    exact ⟨rfl, Below.refl _ _⟩
  · rcases rdG_cases hb with ⟨h0, ao, cap', rfl⟩ | ⟨_, b', off', cap', rfl, _, hlt', hc'⟩
    · rw [h0] at hp; simp at hp
    · have HA : Hid (∀ j, j < xs.length → ∀ w', Below w.heap.size w w' → w'.cell? ⟨b, off + j * 2, none⟩ = some (.int .i64 (xs.getD j dt0).1) ∧ w'.cell? ⟨b, off + j * 2 + 1, none⟩ = some (.int .i64 (xs.getD j dt0).2)) := fun j hj w' h => dt_cells (cellsG_below hc hlt h) hj
      have HB : Hid (∀ j, j < xs.length → ∀ w', Below w.heap.size w w' → w'.cell? ⟨b', off' + j * 2, none⟩ = some (.int .i64 (xs.getD j dt0).1) ∧ w'.cell? ⟨b', off' + j * 2 + 1, none⟩ = some (.int .i64 (xs.getD j dt0).2)) := fun j hj w' h => dt_cells (cellsG_below hc' hlt' h) hj
      obtain ⟨n, hn⟩ : ∃ n, n = xs.length := ⟨_, rfl⟩
      rw [← hn] at hl hp HA HB ⊢
      clear hc hc' hp hn ha hb
      go_enter Tryd.func8, Tryd.ntmps8
      go_wp2
      go_loopw [5] (fun i wr => ∃ k : Nat, k ≤ n ∧ i = .int .i64 k ∧ Hid (Below w.heap.size w wr)) (fun i _ => n - (intOf i).toNat)
      case atStart => exact ⟨0, Nat.zero_le _, rfl, Below.refl _ _⟩
      case round =>
        rename World => w1
        obtain ⟨k, hk, rfl, hB⟩ := hrel
        have hs1 := hB.out.size
        by_cases hltk : k < n
        · obtain ⟨d0, d1⟩ := HA.out k hltk _ hB.out
          obtain ⟨d2, d3⟩ := HB.out k hltk _ hB.out
          obtain ⟨x, hxx⟩ : ∃ x, x = xs.getD k dt0 := ⟨_, rfl⟩
          rw [← hxx] at d0 d1 d2 d3
          obtain ⟨x1, x2⟩ := x
          clear hxx
          have hcall := Lib.hid (fun W => eqDot_same x1 x2 W)
          have hltI : (k : Int) < (n : Int) := by omega
          go_wp2
          go_region_with (first | (go_at_call 22; refine (hcall.out _).mono ?_; rintro e w2 ⟨rfl, hb2⟩))
          all_goals
            have HB2 : Hid (Below w.heap.size w w2) := by first | exact hB.out.trans (hb2.mono hs1) | exact hB.out.drew.trans (hb2.mono hs1)
            clear hcall hb2
            go_wp2
            go_roundw
            case rel => exact ⟨k + 1, by omega, by go_num, HB2⟩
            case measure => simp [intOf]; omega
        · go_wp2
          go_ret
          exact ⟨rfl, hB.out⟩
/-- what markDotS lays from m on -/
def marksDt (m n : Nat) : List Dt := (List.range n).map fun (j : Nat) => (((m + 2 * j : Nat) : Int), ((m + 2 * j + 1 : Nat) : Int))
theorem marksDt_len (m n : Nat) : (marksDt m n).length = n := by simp [marksDt]
theorem marksDt_succ (m k : Nat) : marksDt m (k + 1) = marksDt m k ++ [(((m + 2 * k : Nat) : Int), ((m + 2 * k + 1 : Nat) : Int))] := by simp [marksDt, List.range_succ]
theorem marksDt_get {m n j : Nat} (h : j < n) : (marksDt m n).getD j dt0 = (((m + 2 * j : Nat) : Int), ((m + 2 * j + 1 : Nat) : Int)) := by simp [marksDt, List.getD, h]
theorem marksDt_step (m k : Nat) (xs : List Dt) (h : k < xs.length) : (marksDt m k ++ xs.drop k).set k (((m + 2 * k : Nat) : Int), ((m + 2 * k + 1 : Nat) : Int)) = marksDt m (k + 1) ++ xs.drop (k + 1) := by
  rw [List.drop_eq_getElem_cons h, marksDt_succ, List.set_append_right _ _ (by rw [marksDt_len]; exact Nat.le_refl _), marksDt_len, Nat.sub_self, List.set_cons_zero, List.append_assoc]
  rfl
set_option maxHeartbeats 2000000 in
set_option maxRecDepth 100000 in
theorem markDotS_any (base : Nat) (v : Value) (m : Nat) (xs : List Dt) (w : World) (hown : OwnD w base v xs) (hl : xs.length ≤ 1048576) (hm2 : m ≤ 4194304) :
    Calls Tryd.prog 11 #[v, .int .i64 (m : Int)] w fun e w' => e = .returned (.int .i64 ((m + 2 * xs.length : Nat) : Int)) ∧ OwnD w' base v (marksDt m xs.length) ∧ w.grownBy w' v.ownBlock := by
  have HO9 : Hid (∀ (w9 : World), w9.ownsRow base 38 2 v xs.length (rowC dtf (marksDt m xs.length)) → OwnD w9 base v (marksDt m xs.length)) := fun w9 h => by rw [OwnD, OwnG, marksDt_len]; exact h
  rcases ownG_cases dtW hown with ⟨rfl, rfl⟩ | ⟨g, cap, cur, rfl, hbg, hgs, _⟩
  · go_enter Tryd.func11, Tryd.ntmps11
    go_wp2
    refine wp_loop_rounds 1 ?_
    rw [rounds_succ]
    go_wp2
    go_ret
    exact ⟨ret_int (by simp), hown, World.grownBy.refl _ _⟩
  · obtain ⟨n, hnx⟩ : ∃ n, n = xs.length := ⟨_, rfl⟩
    rw [OwnD, OwnG, ← hnx] at hown
    rw [← hnx] at hl HO9 ⊢
    have HX : Hid (n = xs.length) := hnx
    clear hnx
    go_enter Tryd.func11, Tryd.ntmps11
    go_wp2
    go_loopw [1, 5] (fun q i wr => ∃ k t : Nat, k ≤ n ∧ q = .int .i64 t ∧ Hid (t = m + 2 * k) ∧ t ≤ 6291456 ∧ i = .int .i64 k ∧ wr.ownsRow base 38 2 (.slice (some ⟨g, 0, none⟩) n cap) n (rowC dtf (marksDt m k ++ xs.drop k)) ∧ w.grownBy wr (some g)) (fun _ i _ => n - (intOf i).toNat)
    case atStart => exact ⟨0, m, Nat.zero_le _, rfl, rfl, by omega, rfl, by simpa [marksDt] using hown, World.grownBy.refl _ _⟩
    case round =>
      rename World => w1
      obtain ⟨k, t, hk, rfl, ht, htb, rfl, ho, hg⟩ := hrel
      by_cases hlt : k < n
      · have hkx : k < xs.length := by have := HX.out; omega
        have hll : (marksDt m k ++ xs.drop k).length = n := by have := HX.out; rw [List.length_append, marksDt_len, List.length_drop]; omega
        have hlc : (rowC dtf (marksDt m k ++ xs.drop k)).length = n * 2 := by rw [rowC_len dtW, hll]
        have f0 := ho.cellAt (k * 2) (by omega)
        have f1 := ho.cellAt (k * 2 + 1) (by omega)
        have z0 := ho.frozenAt (k * 2)
        have z1 := ho.frozenAt (k * 2 + 1)
        obtain ⟨u0, hu0⟩ : ∃ u0, (rowC dtf (marksDt m k ++ xs.drop k))[k * 2]? = some u0 := ⟨_, List.getElem?_eq_getElem (by omega)⟩
        obtain ⟨u1, hu1⟩ : ∃ u1, (rowC dtf (marksDt m k ++ xs.drop k))[k * 2 + 1]? = some u1 := ⟨_, List.getElem?_eq_getElem (by omega)⟩
        rw [hu0] at f0
        rw [hu1] at f1
        have hst1 := ho.stored (k * 2) (.int .i64 (t : Int))
        have hst2 := hst1.1.stored (k * 2 + 1) (.int .i64 ((t : Int) + 1))
        have htt := ht.out
        rw [dt_set _ k ((t : Int), (t : Int) + 1) (by omega), show ((t : Int), (t : Int) + 1) = (((m + 2 * k : Nat) : Int), ((m + 2 * k + 1 : Nat) : Int)) by rw [← htt]; rfl, marksDt_step m k xs hkx] at hst2
        have HO := Lib.hid hst2.1
        have HG := Lib.hid (grown_trans hg (grown_trans hst1.2 hst2.2))
        have hbk : Hid (t + 2 = m + 2 * (k + 1) ∧ t + 2 ≤ 6291456) := ⟨by omega, by have := HX.out; omega⟩
        clear hst1 hst2 hg ho hu0 hu1 htt hlc hll
        go_wp2
        go_roundw
        case rel => exact ⟨k + 1, t + 2, by omega, by go_num, hbk.out.1, hbk.out.2, by go_num, HO.out, HG.out⟩
        case measure => simp [intOf]; omega
      · have hk9 : k = n := by omega
        have hx := HX.out
        rw [hk9, List.drop_of_length_le (by omega), List.append_nil] at ho
        have HO := Lib.hid (HO9.out _ ho)
        have HT : Hid (t = m + 2 * n) := by have h9 := ht.out; rw [hk9] at h9; exact h9
        clear hx hk9 ho
        go_wp2
        go_ret
        exact ⟨ret_int (by rw [HT.out]), HO.out, hg⟩
set_option maxHeartbeats 2000000 in
set_option maxRecDepth 100000 in
theorem heldDotS_any (v : Value) (m n : Nat) (w : World) (hrd : RdG dtf 2 w v (marksDt m n)) (hl : n ≤ 1048576) (hm2 : m ≤ 4194304) :
    Calls Tryd.prog 12 #[v, .int .i64 (m : Int)] w fun e w' => e = .returned (.int .i64 ((m + 2 * n : Nat) : Int)) ∧ w' = w := by
  rcases rdG_cases hrd with ⟨h0, ao, cap, rfl⟩ | ⟨hp, b, off, cap, rfl, _, hlt, hc⟩
  · have h1 := congrArg List.length h0
    rw [marksDt_len] at h1
    simp only [List.length_nil] at h1
    subst h1
    go_enter Tryd.func12, Tryd.ntmps12
    go_wp2
    refine wp_loop_rounds 1 ?_
    rw [rounds_succ]
    go_wp2
    go_ret
    exact ⟨ret_int (by simp), rfl⟩
  · rw [marksDt_len] at hp ⊢
    have HC : Hid (∀ j, j < n → w.cell? ⟨b, off + j * 2, none⟩ = some (.int .i64 ((m + 2 * j : Nat) : Int)) ∧ w.cell? ⟨b, off + j * 2 + 1, none⟩ = some (.int .i64 ((m + 2 * j + 1 : Nat) : Int))) := fun j hj => by
      have := dt_cells hc (j := j) (by rw [marksDt_len]; exact hj)
      rw [marksDt_get hj] at this
      exact this
    clear hc hp hrd
    go_enter Tryd.func12, Tryd.ntmps12
    go_wp2
    go_loopw [1, 5] (fun q i wr => ∃ k t : Nat, k ≤ n ∧ q = .int .i64 t ∧ Hid (t = m + 2 * k) ∧ t ≤ 6291456 ∧ i = .int .i64 k ∧ wr = w) (fun _ i _ => n - (intOf i).toNat)
    case atStart => exact ⟨0, m, Nat.zero_le _, rfl, rfl, by omega, rfl, rfl⟩
    case round =>
      obtain ⟨k, t, hk, rfl, ht, htb, rfl, rfl⟩ := hrel
      by_cases hltk : k < n
      · obtain ⟨d0, d1⟩ := HC.out k hltk
        rw [← ht.out] at d0 d1
        have e1 : ((t + 1 : Nat) : Int) = (t : Int) + 1 := rfl
        rw [e1] at d1
        have hbk : Hid (t + 2 = m + 2 * (k + 1) ∧ t + 2 ≤ 6291456) := ⟨by have := ht.out; omega, by have := ht.out; omega⟩
        clear e1
        go_wp2
        go_roundw
        case rel => exact ⟨k + 1, t + 2, by omega, by go_num, hbk.out.1, hbk.out.2, by go_num, by first | rfl | trivial⟩
        case measure => simp [intOf]; omega
      · have HT : Hid (t = m + 2 * n) := by have h9 := ht.out; rw [show k = n by omega] at h9; exact h9
        go_wp2
        go_ret
        exact ⟨ret_int (by rw [HT.out]), rfl⟩

end Go.Proofs.YtidmaaglfckcbaoDoor
