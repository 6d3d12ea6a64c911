/- CONTRACTS: the program's RingOk; slices.Grow of nothing and slices.Concat of two, at dots. -/
import Derived.Test.YtjjaephhnlhnkacDoorNDtXw
import Derived.Test.YtjjaephhnlhnkacDoorDotY
import Derived.Lib.AppendZeros
namespace Go.Proofs.YtjjaephhnlhnkacDoor
open Go.RowKit
set_option linter.unusedVariables false
abbrev NumD (l : List Dt) : Nat → Int := fun j => (l.getD j dt0).1
theorem ring_parts {l : List Dt} (h1 : 1 ≤ l.length) (h2 : l.length ≤ 128) : decide (RingP l) = (riseN (fun j => (l.getD j dt0).1) l.length && !(l.any wrongD)) := by
  by_cases hr : RiseN (NumD l) l.length
  · rw [riseN_iff.2 hr, Bool.true_and]
    cases ha : l.any wrongD with
    | true =>
      obtain ⟨p, hp, hw⟩ := List.any_eq_true.1 ha
      refine decide_eq_false fun h => ?_
      have h9 := wrongD_no.2 (h.2.1 p hp)
      rw [h9] at hw; cases hw
    | false =>
      refine decide_eq_true ⟨⟨h1, h2⟩, fun p hp => ?_, List.pairwise_iff_getElem.2 fun i j hi hj hij => ?_⟩
      · have h9 := List.any_eq_false.1 ha p hp
        exact wrongD_no.1 (by simpa using h9)
      · have h9 := riseN_lt hr hij hj
        unfold NumD at h9
        rwa [getD_dt hi, getD_dt hj] at h9
  · have e : riseN (fun j => (l.getD j dt0).1) l.length = false := by
      cases h9 : riseN (fun j => (l.getD j dt0).1) l.length with
      | false => rfl
      | true => exact absurd (riseN_iff.1 h9) hr
    rw [e, Bool.false_and]
    refine decide_eq_false fun h => hr fun i hi h0 => ?_
    have h9 := List.pairwise_iff_getElem.1 h.2.2 (i - 1) i (by omega) hi (by omega)
    unfold NumD
    rwa [getD_dt hi, getD_dt (show i - 1 < l.length by omega)]
theorem ring_rise {l : List Dt} (h : RingP l) : RiseN (fun j => (l.getD j dt0).1) l.length := fun i hi h0 => by
  have h9 := List.pairwise_iff_getElem.1 h.2.2 (i - 1) i (by omega) hi (by omega)
  show (l.getD (i - 1) dt0).1 < (l.getD i dt0).1
  rwa [getD_dt hi, getD_dt (show i - 1 < l.length by omega)]
set_option maxHeartbeats 1000000 in
theorem implRingOk_any (va : Value) (l : List Dt) (w : World) (ha : RdG dtf 2 w va l) (hl : l.length ≤ 1048576) :
    Calls Tryd.prog 19 #[va] w fun e w' => e = .returned (.bool (decide (RingP l))) ∧ Below w.heap.size w w' := by
  have hri := risesDt_any va l w ha hl
  have hco := fun w' (h : Below w.heap.size w w') => containsW_any va l w' (rdG_below ha h) hl
  by_cases h0 : l.length = 0
  focus
    have e : decide (RingP l) = false := decide_eq_false fun h => by have := h.1.1; omega
    rw [e]
    obtain ⟨ao, cap, rfl⟩ := rdG_shape ha
    rw [h0] at *
    clear e hri hco ha h0
    go_enter Tryd.func19, Tryd.ntmps19
    go_wp2
    go_ret
    exact ⟨rfl, Below.refl _ _⟩
  have h1I : (1 : Int) ≤ (l.length : Int) := by omega
  by_cases h128 : 128 < l.length
  focus
    have e : decide (RingP l) = false := decide_eq_false fun h => by have := h.1.2; omega
    rw [e]
    obtain ⟨ao, cap, rfl⟩ := rdG_shape ha
    have hI : ¬ (l.length : Int) ≤ 128 := by omega
    clear e hri hco ha h0
    go_enter Tryd.func19, Tryd.ntmps19
    go_wp2
    go_ret
    exact ⟨rfl, Below.refl _ _⟩
  have hI : (l.length : Int) ≤ 128 := by omega
  rw [ring_parts (by omega) (by omega)]
  generalize riseN (fun j => (l.getD j dt0).1) l.length = r1 at hri ⊢
  generalize l.any wrongD = r2 at hco ⊢
  obtain ⟨ao, cap, rfl⟩ := rdG_shape ha
  clear ha h128 h0
  cases r1 with
  | false =>
    go_enter Tryd.func19, Tryd.ntmps19
    go_wp2_with fail
    refine hri.mono ?_
    rintro e w2 ⟨rfl, hb2⟩
    clear hri hco
    go_wp2
    go_ret
    exact ⟨rfl, hb2⟩
  | true =>
    go_enter Tryd.func19, Tryd.ntmps19
    go_wp2_with fail
    refine hri.mono ?_
    rintro e w2 ⟨rfl, hb2⟩
    have hco2 := hco w2 hb2
    clear hri hco
    go_wp2_with fail
    refine hco2.mono ?_
    rintro e w3 ⟨rfl, hb3⟩
    have hb4 := hb2.trans (hb3.mono hb2.size)
    clear hco2 hb2 hb3
    go_wp2
    go_ret
    exact ⟨by simp, hb4⟩
set_option maxHeartbeats 1000000 in
set_option maxRecDepth 100000 in
theorem growD_any (n : Nat) (hn0 : 0 < n) (hn : n ≤ 1048576) (w : World) :
    Calls Tryd.prog 51 #[.slice none 0 0, .int .i64 (n : Int)] w fun e w' => ∃ v, e = .returned v ∧ OwnD w' w.heap.size v [] ∧ Below w.heap.size w w' := by
  obtain ⟨i0, hi, hz0, hz1, hz2⟩ := info_parts dtY.inf
  have hrow := Lib.run_append_nil_zeros (P := Tryd.prog) w 24 3 24 51 i0 (.agg #[.int .i64 0, .int .i64 0]) .i64 .i64 dtY.und Tryd.underlying3 hi hz0 n hn0 (by rw [hz1]; decide) (by omega) (by rw [hz2]; omega)
  have hge := grownCap_ge w n 0 51
  have hle := grownCap_le_maxLen w n 0 51 (by unfold maxLen; omega)
  obtain ⟨cap, hcap⟩ : ∃ cap, cap = grownCap w n 0 51 := ⟨_, rfl⟩
  rw [← hcap] at hrow hge hle
  obtain ⟨cs, hcs⟩ : ∃ cs, cs = Builtin.zeroCells (Value.agg #[.int .i64 0, .int .i64 0]).cells n ++ Builtin.zeroCells (Value.agg #[.int .i64 0, .int .i64 0]).cells (cap - n) := ⟨_, rfl⟩
  have hcl : cs.size = cap * 2 := by
    rw [hcs, Array.size_append]
    simp [Builtin.zeroCells, Value.cells]
    omega
  rw [← hcs] at hrow
  clear hcs hcap
  have hO : Hid (OwnD (w.drew.alloc (.cells cs 51)) w.heap.size (.slice (some ⟨w.heap.size, 0, none⟩) 0 cap) []) :=
    ⟨rfl, .inr ⟨w.heap.size, cap, cs, rfl, Nat.le_refl _, heap_alloc_new w.drew _, Nat.zero_le _, hle, hcl, by simp [rowC]⟩⟩
  have hB : Below w.heap.size w (w.drew.alloc (.cells cs 51)) := (Below.refl _ w).drew.alloc (Nat.le_refl _) _
  have HROW := Lib.hid hrow
  have hle2 : cap ≤ 9223372036854775807 := by unfold maxLen at hle; omega
  have hsl := fun W => slG_zero dtY W w.heap.size n cap (by omega) hle2
  clear hrow hcl hle hi hz0 hz1 hz2
  go_enter Tryd.func51, Tryd.ntmps51
  go_wp2_with (at_builtin; refine Lib.wpList_append_run _ rfl _ _ _ _ rfl _ _ rfl rfl _ _ HROW.out ?_)
  go_wp2
  go_ret
  exact ⟨_, rfl, hO.out, hB⟩
set_option maxHeartbeats 2000000 in
set_option maxRecDepth 100000 in
theorem concatD_any (q : Nat) (v1 v2 : Value) (xs ys : List Dt) (w : World) (h1 : RdG dtf 2 w v1 xs) (h2 : RdG dtf 2 w v2 ys) (hx0 : 0 < xs.length + ys.length) (hl : xs.length + ys.length ≤ 1048576)
    (c1 : w.cell? ⟨q, 0, none⟩ = some v1) (c2 : w.cell? ⟨q, 1, none⟩ = some v2) (hq : q < w.heap.size) :
    Calls Tryd.prog 28 #[.slice (some ⟨q, 0, none⟩) 2 2] w fun e w' => ∃ v, e = .returned v ∧ OwnD w' w.heap.size v (xs ++ ys) ∧ Below w.heap.size w w' := by
  have HX := Lib.hid (fun (W : World) (h : Below w.heap.size w W) => rdG_below h1 h)
  have HY := Lib.hid (fun (W : World) (h : Below w.heap.size w W) => rdG_below h2 h)
  obtain ⟨a1, p1, hv1⟩ := rdG_shape h1
  obtain ⟨a2, p2, hv2⟩ := rdG_shape h2
  obtain ⟨m, hm⟩ : ∃ m, m = xs.length := ⟨_, rfl⟩
  obtain ⟨k, hk⟩ : ∃ k, k = ys.length := ⟨_, rfl⟩
  rw [← hm] at hv1 hx0 hl
  rw [← hk] at hv2 hx0 hl
  have HM := Lib.hid hm
  have HK := Lib.hid hk
  clear h1 h2 hm hk
  subst hv1
  subst hv2
  have htg := dtY.ty dtW
  go_enter Tryd.func28, Tryd.ntmps28
  go_wp2
  refine wp_loop_rounds 3 ?_
  rw [rounds_succ]
  go_wp2
  rw [rounds_succ]
  go_wp2
  rw [rounds_succ]
  obtain ⟨s, hs⟩ : ∃ s, s = m + k := ⟨_, rfl⟩
  have hmk : (m : Int) + (k : Int) = (s : Int) := by omega
  have hs0 : 0 < s := by omega
  have hsl : s ≤ 1048576 := by omega
  clear hs
  go_wp2_with fail
  refine (growD_any s hs0 hsl w).mono ?_
  rintro e w1 ⟨v, rfl, ho1, hb1⟩
  have d1 : w1.cell? ⟨q, 0, none⟩ = some (.slice a1 m p1) := (hb1.cell (p := ⟨q, 0, none⟩) hq).trans c1
  have hs1 := hb1.size
  have HB1 := Lib.hid hb1
  have HO1 := Lib.hid ho1
  have hx1 := HX.out w1 hb1
  clear hb1 ho1 hmk
  go_wp2
  refine wp_loop_rounds 3 ?_
  rw [rounds_succ]
  have hln1 : ([] : List Dt).length + xs.length ≤ 16777216 := by have := HM.out; simp; omega
  go_wp2_with (at_builtin; refine own_stepG htg dtW rfl _ _ rfl w.heap.size v (.slice a1 m p1) [] xs rfl rfl HO1.out hx1 hln1 hs1 ?_)
  intro v2 w2 ho2 hg2 _
  have hb2 : Below w.heap.size w w2 := HB1.out.grown hg2 (by omega) (fun k hk => (HO1.out.lt k hk).1)
  try rw [List.nil_append] at ho2
  have HO2 := Lib.hid ho2
  have HB2 := Lib.hid hb2
  have hs2 := hb2.size
  have hy2 := HY.out w2 hb2
  have d2 : w2.cell? ⟨q, 1, none⟩ = some (.slice a2 k p2) := (hb2.cell (p := ⟨q, 1, none⟩) hq).trans c2
  clear ho2 hg2 hb2 HO1 HB1 d1 c1 c2 hln1 hx1
  go_wp2
  rw [rounds_succ]
  have hln2 : xs.length + ys.length ≤ 16777216 := by have := HM.out; have := HK.out; omega
  go_wp2_with (at_builtin; refine own_stepG htg dtW rfl _ _ rfl w.heap.size v2 (.slice a2 k p2) xs ys rfl rfl HO2.out hy2 hln2 hs2 ?_)
  intro v3 w3 ho3 hg3 _
  have HB3 : Hid (Below w.heap.size w w3) := HB2.out.grown hg3 (by omega) (fun k hk => (HO2.out.lt k hk).1)
  have HO3 := Lib.hid ho3
  clear ho3 hg3 HO2 HB2 d2 hln2 hy2
  go_wp2
  rw [rounds_succ]
  go_wp2
  go_ret
  exact ⟨_, rfl, HO3.out, HB3.out⟩
end Go.Proofs.YtjjaephhnlhnkacDoor
