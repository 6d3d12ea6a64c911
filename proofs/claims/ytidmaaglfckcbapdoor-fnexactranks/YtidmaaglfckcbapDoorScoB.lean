/- CONTRACTS: the program's Score; cmp.Or; which of two scores is ahead; slices.Index, slices.Contains of a row of scores. -/
import Derived.Test.YtidmaaglfckcbapDoorScoR
import Derived.Test.YtidmaaglfckcbapDoorTabL
import Derived.Test.YtidmaaglfckcbapDoorBltg
import Derived.Test.YtidmaaglfckcbapDoorCmp
import Derived.Test.YtidmaaglfckcbapDoorDots
import Derived.Test.YtidmaaglfckcbapDoorIdxL
import Derived.Sort.Grow
import Derived.Deep.RegionHeld
namespace Go.Proofs.YtidmaaglfckcbapDoor
open Go.RowKit
set_option linter.unusedVariables false
theorem Tryd.infoSc : (Tryd.prog.info? 33).map (fun i => (i.zero, i.size, i.bytes)) = some (some (.agg #[.int .i64 0, .int .i64 0]), 2, 16) := by kernel_rfl
theorem scY : TyZ Tryd.prog 31 33 dtf 2 16 dt0 (.agg #[.int .i64 0, .int .i64 0]) := ⟨Tryd.underlying31, Tryd.infoSc, by decide, rfl⟩
/-- two scores alike: both numbers alike -/
theorem eqSc (a b c d : Int) (W : World) : (Op.equalIn 10000 33 (.agg #[.int .i64 a, .int .i64 b]) (.agg #[.int .i64 c, .int .i64 d])).run Tryd.prog W = .ok (a == c && b == d) W := by
  obtain ⟨i0, hi, hz0, hz1, hz2⟩ := info_parts Tryd.info64
  have hc : Tryd.prog.cellsOf 2 = 1 := by kernel_rfl
  rw [show (10000 : Nat) = 9998 + 1 + 1 from rfl, run_equalIn_array W (9998 + 1) _ _ Tryd.underlying33 hi, hc]
  have e2 : List.range 2 = [0, 1] := rfl
  rw [e2]
  have hu := Tryd.underlying2
  have ha := Tryd.isAgg2
  simp only [Op.eqItems]
  have h1 := run_equalIn_int (P := Tryd.prog) W 9998 2 .i64 .i64 a c hu
  have h2 := run_equalIn_int (P := Tryd.prog) W 9998 2 .i64 .i64 b d hu
  simp only [Nat.reduceAdd] at h1 h2 ⊢
  simp [part, ha, h1, h2]
  by_cases e1 : a = c <;> by_cases e3 : b = d <;> simp [e1, e3]
set_option maxHeartbeats 1000000 in
theorem implScore_any (n k : Int) (w : World) (htab : TabP w) (hn : n ≤ 9223372036854775807) (hk : k ≤ 9223372036854775807) :
    Calls Tryd.prog 15 #[.int .i64 n, .int .i64 k] w fun e w' => e = .returned (.int .i64 (scoT n k)) ∧ Below w.heap.size w w' := by
  by_cases h0 : n < 0
  focus
    have e : scoT n k = -1 := by unfold scoT; rw [if_neg (by omega)]
    rw [e]
    clear htab
    go_enter Tryd.func15, Tryd.ntmps15
    go_wp2
    go_ret
    exact ⟨rfl, Below.refl _ _⟩
  by_cases h1 : k < 0
  focus
    have e : scoT n k = -1 := by unfold scoT; rw [if_neg (by omega)]
    rw [e]
    clear htab
    go_enter Tryd.func15, Tryd.ntmps15
    go_wp2
    go_ret
    exact ⟨rfl, Below.refl _ _⟩
  have e : scoT n k = digest (scoX n.toNat k.toNat) := by unfold scoT; rw [if_pos ⟨by omega, by omega⟩]
  rw [e]
  obtain ⟨a, ha⟩ : ∃ a : Nat, n = (a : Int) := ⟨n.toNat, by omega⟩
  obtain ⟨b, hb⟩ : ∃ b : Nat, k = (b : Int) := ⟨k.toNat, by omega⟩
  have hat : n.toNat = a := by omega
  have hbt : k.toNat = b := by omega
  rw [hat, hbt]
  subst ha
  subst hb
  have hint := formatTab_any a (by omega) w htab
  have hint2 := Lib.hid (fun (W : World) (hW : Below w.heap.size w W) => formatTab_any b (by omega) W (tab_below htab hW))
  have hs1 := (decN_size a).1
  have hs2 := (decN_size b).1
  have e1 : (⟨#[47]⟩ : ByteArray).size = 1 := rfl
  have hX : scoX a b = (decN a ++ ⟨#[47]⟩) ++ decN b := rfl
  have hz1 : (decN a ++ ⟨#[47]⟩ : ByteArray).size ≤ 21 := by rw [ByteArray.size_append]; omega
  have hXs : (scoX a b).size ≤ 41 := by rw [hX, ByteArray.size_append]; omega
  have ha1 : ∀ W : World, (Op.stringOp .add (decN a) ⟨#[47]⟩).run Tryd.prog W = .ok (.string (decN a ++ ⟨#[47]⟩)) W := fun W => run_string_add_sum W _ _ (by omega)
  have ha2 : ∀ W : World, (Op.stringOp .add (decN a ++ ⟨#[47]⟩) (decN b)).run Tryd.prog W = .ok (.string ((decN a ++ ⟨#[47]⟩) ++ decN b)) W := fun W => run_string_add_sum W _ _ (by omega)
  rw [← hX] at ha2
  have hdig := fun W => implDigest_any (scoX a b) W (by omega)
  generalize scoX a b = t at ha2 hdig ⊢
  generalize decN a ++ ⟨#[47]⟩ = t1 at ha1 ha2
  generalize decN a = d1 at ha1 hint
  generalize decN b = d2 at ha2 hint2
  generalize digest t = dg at hdig ⊢
  clear e hat hbt hs1 hs2 e1 hX hz1 hXs h0 h1 htab
  have h0 : ¬ (a : Int) < 0 := by omega
  have h1 : ¬ (b : Int) < 0 := by omega
  go_enter Tryd.func15, Tryd.ntmps15
  go_wp2_with fail
  refine hint.mono ?_
  rintro e w1 ⟨rfl, hb1⟩
  have hcall := hint2.out w1 hb1
  clear hint hint2
  go_wp2_with fail
  refine hcall.mono ?_
  rintro e w2 ⟨rfl, hb2⟩
  have HB3 := Lib.hid (hb1.trans (hb2.mono hb1.size))
  clear hcall hb1 hb2
  go_wp2_with fail
  refine (hdig _).mono ?_
  rintro e w3 ⟨rfl, rfl⟩
  clear hdig
  go_wp2
  go_ret
  exact ⟨rfl, HB3.out⟩
def orI (a b : Int) : Int := if a = 0 then b else a
theorem or_any (a b : Int) (g : Nat) (w : World) (h0 : w.cell? ⟨g, 0, none⟩ = some (.int .i64 a)) (h1 : w.cell? ⟨g, 1, none⟩ = some (.int .i64 b)) :
    Calls Tryd.prog 28 #[.slice (some ⟨g, 0, none⟩) 2 2] w fun e w' => e = .returned (.int .i64 (orI a b)) ∧ w' = w := by
  by_cases ha : a = 0
  · have e : orI a b = b := by unfold orI; rw [if_pos ha]
    rw [e]
    subst ha
    by_cases hb : b = 0
    · subst hb
      clear e
      go_enter Tryd.func28, Tryd.ntmps28
      go_wp2
      refine wp_loop_rounds 3 ?_
      rw [rounds_succ]
      go_wp2
      rw [rounds_succ]
      go_wp2
      rw [rounds_succ]
      go_wp2
      go_ret
      exact ⟨rfl, rfl⟩
    · have hb1 : (b == 0) = false := by simpa using hb
      have hb2 : (b != 0) = true := by simpa using hb
      clear e
      go_enter Tryd.func28, Tryd.ntmps28
      go_wp2
      refine wp_loop_rounds 3 ?_
      rw [rounds_succ]
      go_wp2
      rw [rounds_succ]
      go_wp2
      go_ret
      exact ⟨rfl, rfl⟩
  · have e : orI a b = a := by unfold orI; rw [if_neg ha]
    rw [e]
    have hb1 : (a == 0) = false := by simpa using ha
    have hb2 : (a != 0) = true := by simpa using ha
    clear e
    go_enter Tryd.func28, Tryd.ntmps28
    go_wp2
    refine wp_loop_rounds 3 ?_
    rw [rounds_succ]
    go_wp2
    go_ret
    exact ⟨rfl, rfl⟩
theorem two_cells (W : World) (a b : Value) (T : TypeId) (g : Nat) (hg : g = W.heap.size) : (W.alloc (.cells #[a, b] T)).drew.cell? ⟨g, 0, none⟩ = some a ∧ (W.alloc (.cells #[a, b] T)).drew.cell? ⟨g, 1, none⟩ = some b := by
  subst hg
  have h := heap_alloc_new W (.cells #[a, b] T)
  exact ⟨cell_of_row _ W.heap.size 0 _ _ (0, 0) h, cell_of_row _ W.heap.size 1 _ _ (0, 0) h⟩
theorem three_new (w : World) (a b c : Obj) : (((w.alloc a).alloc b).alloc c).drew = Sort.grow (w.drewN 1) #[a, b, c] := by
  rw [Sort.alloc_eq_grow, Sort.alloc_eq_grow, Sort.alloc_eq_grow, Sort.grow_grow, Sort.grow_grow]; rfl
/-- below 0 where the first is ahead: the greater score, of alike ones the less node -/
def agI (s o : Dt) : Int := orI (cmpI o.1 s.1) (cmpI s.2 o.2)
set_option maxHeartbeats 4000000 in
theorem against_any (s1 s2 o1 o2 : Int) (w : World) :
    Calls Tryd.prog 18 #[.agg #[.int .i64 s1, .int .i64 s2], .agg #[.int .i64 o1, .int .i64 o2]] w fun e w' => e = .returned (.int .i64 (agI (s1, s2) (o1, o2))) ∧ ∃ q os', w' = Sort.grow (w.drewN q) os' := by
  have hR : agI (s1, s2) (o1, o2) = orI (cmpI o1 s1) (cmpI s2 o2) := rfl
  have hor := fun g W => or_any (cmpI o1 s1) (cmpI s2 o2) g W
  rw [hR]
  generalize orI (cmpI o1 s1) (cmpI s2 o2) = R at hor ⊢
  clear hR
  go_enter Tryd.func18, Tryd.ntmps18
  go_wp2_with fail
  go_region_held (fun W : World => (W.cell? ⟨w.heap.size, 0, none⟩ = some (.int .i64 s1) ∧ W.cell? ⟨w.heap.size, 1, none⟩ = some (.int .i64 s2)) ∧ (W.cell? ⟨w.heap.size + 1, 0, none⟩ = some (.int .i64 o1) ∧ W.cell? ⟨w.heap.size + 1, 1, none⟩ = some (.int .i64 o2))) (go_keep) (first
    | (go_at_call 29; refine (compare_any _ _ _).mono ?_; rintro e w2 ⟨rfl, rfl⟩)
    | (go_at_call 28; refine (hor (w.heap.size + 1 + 1) _ ?h0 ?h1).mono ?_; (case h0 => exact (two_cells _ _ _ _ _ (by simp [World.size_alloc])).1); (case h1 => exact (two_cells _ _ _ _ _ (by simp [World.size_alloc])).2); rintro e w2 ⟨rfl, rfl⟩))
  all_goals (go_wp2; go_ret; exact ⟨rfl, 1, _, three_new _ _ _ _⟩)
set_option maxHeartbeats 2000000 in
set_option maxRecDepth 100000 in
theorem indexSc_any (va : Value) (l : List Dt) (v1 v2 : Int) (w : World) (ha : RdG dtf 2 w va l) (hl : l.length ≤ 1048576) :
    Calls Tryd.prog 25 #[va, .agg #[.int .i64 v1, .int .i64 v2]] w fun e w' => e = .returned (.int .i64 (idxP (fun x : Dt => decide (x = (v1, v2))) l 0)) ∧ Below w.heap.size w w' := by
  have hb0 : Below w.heap.size w (w.alloc (.cells #[.int .i64 v1, .int .i64 v2] 33)) := (Below.refl _ _).alloc (Nat.le_refl _) _
  have hnew := heap_alloc_new w (.cells #[.int .i64 v1, .int .i64 v2] 33)
  rcases rdG_cases ha with ⟨h0, ao, cap, rfl⟩ | ⟨hp, b, off, cap, rfl, _, hlt, hc⟩
  · subst h0
    clear ha
    go_enter Tryd.func25, Tryd.ntmps25
    go_wp2
    refine wp_loop_rounds 1 ?_
    rw [rounds_succ]
    go_wp2
    go_ret
    exact ⟨rfl, hb0⟩
  have HA : Hid (CellsG dtf 2 b off l w) := hc
  obtain ⟨P, hP⟩ : ∃ P : Dt → Bool, P = fun x => decide (x = (v1, v2)) := ⟨_, rfl⟩
  have HP := Lib.hid hP
  rw [← hP]
  have HST : Hid (∀ k, k < l.length → idxP P (l.drop k) k = if P (l.getD k dt0) = true then (k : Int) else idxP P (l.drop (k + 1)) (k + 1)) := fun k hk => idxP_step P l dt0 k hk
  have HEND : Hid (idxP P (l.drop l.length) l.length = -1) := idxP_end P l
  have H0 : Hid (idxP P (l.drop 0) 0 = idxP P l 0) := rfl
  generalize idxP P l 0 = R at H0 ⊢
  obtain ⟨n, hn⟩ : ∃ n, n = l.length := ⟨_, rfl⟩
  rw [← hn] at hp hl HST HEND ⊢
  have HN : Hid (n = l.length) := hn
  have hsz : w.heap.size + 1 ≤ (w.alloc (.cells #[.int .i64 v1, .int .i64 v2] 33)).heap.size := by rw [World.size_alloc]; omega
  clear hc hn ha hP
  go_enter Tryd.func25, Tryd.ntmps25
  go_wp2
  generalize w.alloc (.cells #[.int .i64 v1, .int .i64 v2] 33) = w0 at *
  obtain ⟨bx, hbx⟩ : ∃ bx, bx = w.heap.size := ⟨_, rfl⟩
  rw [← hbx] at hnew hsz ⊢
  have HBX := Lib.hid hbx
  have hltx : bx < w0.heap.size := by omega
  have HB0 : Hid (Below w.heap.size w w0) := hb0
  have c0 := cell_of_row w0 bx 0 _ _ (0, 0) hnew
  have c1 := cell_of_row w0 bx 1 _ _ (0, 0) hnew
  simp only [List.getElem?_toArray, List.getElem?_cons_zero, List.getElem?_cons_succ] at c0 c1
  have hlt0 : b < w0.heap.size := by have := HBX.out; omega
  have HA0 : Hid (CellsG dtf 2 b off l w0) := cellsG_below HA.out hlt hb0
  clear hb0 hbx hnew HA hlt
  go_loopw [8] (fun i wr => ∃ k : Nat, k ≤ n ∧ i = .int .i64 k ∧ Below w0.heap.size w0 wr ∧ Hid (idxP P (l.drop k) k = R)) (fun i _ => n - (intOf i).toNat)
  case atStart => exact ⟨0, Nat.zero_le _, rfl, Below.refl _ _, H0⟩
  case round =>
    rename World => wr
    obtain ⟨k, hk, rfl, hb, hR⟩ := hrel
    clear H0
    have HB : Hid (Below w.heap.size w wr) := HB0.out.trans (hb.mono (by have := HB0.out.size; omega))
    by_cases hltk : k < n
    focus
      have hkl : k < l.length := by have := HN.out; omega
      obtain ⟨d0, d1⟩ := dt_cells (cellsG_below HA0.out hlt0 hb) hkl
      have e0 := (hb.cell (p := ⟨bx, 0, none⟩) hltx).trans c0
      have e1 := (hb.cell (p := ⟨bx, 1, none⟩) hltx).trans c1
      have hst := HST.out k hltk
      rw [hR.out] at hst
      have HS := Lib.hid hst
      obtain ⟨x, hx9⟩ : ∃ x, x = l.getD k dt0 := ⟨_, rfl⟩
      rw [← hx9] at d0 d1 HS
      obtain ⟨x1, x2⟩ := x
      simp only at d0 d1
      clear hx9 hkl hst hR
      have e9 : P (x1, x2) = decide ((x1, x2) = (v1, v2)) := by rw [HP.out]
      by_cases hw : (x1, x2) = (v1, v2)
      · have HR : Hid (R = (k : Int)) := by have h9 := HS.out; rw [if_pos (by rw [e9]; exact decide_eq_true hw)] at h9; exact h9
        simp only [Prod.mk.injEq] at hw
        obtain ⟨rfl, rfl⟩ := hw
        have heq := fun W => eqSc x1 x2 x1 x2 W
        simp only [beq_self_eq_true, Bool.and_self] at heq
        clear HS e9 hb c0 c1
        go_wp2_with fail
        go_quiet (fail)
        go_wp2
        go_ret
        exact ⟨by rw [HR.out]; rfl, ⟨HB.out.os, HB.out.tape, HB.out.output, HB.out.size, HB.out.block⟩⟩
      · have HNW : Hid (idxP P (l.drop (k + 1)) (k + 1) = R) := by have h9 := HS.out; rw [if_neg (by rw [e9]; simpa using hw)] at h9; exact h9.symm
        have hne : ¬ (v1 = x1 ∧ v2 = x2) := fun h => hw (by rw [h.1, h.2])
        have hne2 : (v1 == x1 && v2 == x2) = false := by simpa using hne
        have heq := fun W => eqSc v1 v2 x1 x2 W
        simp only [hne2] at heq
        clear HS e9 c0 c1 hw hne hne2
        go_wp2_with fail
        go_quiet (fail)
        go_wp2
        go_roundw
        case rel => exact ⟨k + 1, by omega, by go_num, ⟨hb.os, hb.tape, hb.output, hb.size, hb.block⟩, HNW⟩
        case measure => simp [intOf]; omega
    have HR : Hid (R = -1) := by
      have e : k = n := by omega
      have h9 := hR.out
      rw [e, HEND.out] at h9
      exact h9.symm
    clear hR
    go_wp2
    go_ret
    exact ⟨by rw [HR.out]; rfl, HB.out⟩
theorem containsSc_any (va : Value) (l : List Dt) (v1 v2 : Int) (w : World) (ha : RdG dtf 2 w va l) (hl : l.length ≤ 1048576) :
    Calls Tryd.prog 16 #[va, .agg #[.int .i64 v1, .int .i64 v2]] w fun e w' => e = .returned (.bool (l.any fun x : Dt => decide (x = (v1, v2)))) ∧ Below w.heap.size w w' := by
  have hb0 : Below w.heap.size w (w.alloc (.cells #[.int .i64 v1, .int .i64 v2] 33)) := (Below.refl _ _).alloc (Nat.le_refl _) _
  have hs0 : w.heap.size ≤ (w.alloc (.cells #[.int .i64 v1, .int .i64 v2] 33)).heap.size := hb0.size
  have hcall := indexSc_any va l v1 v2 _ (rdG_below ha hb0) hl
  rw [← idxP_any (fun x : Dt => decide (x = (v1, v2))) l 0]
  generalize idxP (fun x : Dt => decide (x = (v1, v2))) l 0 = r at hcall ⊢
  obtain ⟨ao, cap, rfl⟩ := rdG_shape ha
  clear ha
  go_enter Tryd.func16, Tryd.ntmps16
  go_wp2_with fail
  refine hcall.mono ?_
  rintro e w2 ⟨rfl, hb2⟩
  have HB := Lib.hid (hb0.trans (hb2.mono hs0))
  clear hcall
  go_wp2
  go_ret
  exact ⟨rfl, HB.out⟩
end Go.Proofs.YtidmaaglfckcbapDoor
