/- FnExactWinner: at every argument impl.Winner answers as spec.Winner, writes into no argument and keeps nothing of one. For every one, without a condition. (Written by lawgen12.py.) -/
import Derived.Test.YtidmaaglfckcbapDoorScoI
import Derived.Test.YtidmaaglfckcbapDoorArgs
import Derived.Test.YtidmaaglfckcbapDoorCards
import Derived.Test.YtidmaaglfckcbapDoorTie
import Derived.SevenTiedAt
import Derived.LaidMore
import Derived.Stop.Joined
import Derived.Test.YtidmaaglfckcbapDoorIntsI
namespace Go.Proofs.YtidmaaglfckcbapDoor.exWinner
open Go.ChangeShapes Go.WideShapes Go.ChangeAt Go.RowKit
set_option linter.unusedVariables false

set_option maxHeartbeats 4000000 in
set_option maxRecDepth 100000 in
theorem walk (va : Value) (xs : List Int) (n0 : Int) (w : World) (hL : laidMetH Tryd.prog Rows.fnExactWinnerRow.laid w) (ha : Rd w va (cellsInt64S xs)) (hza : ∀ n ∈ xs, (Lit.int .i64 n).wf = true) (hna : xs.length ≤ 9223372036854775807) (n0l : -9223372036854775808 ≤ n0) (n0h : n0 ≤ 9223372036854775807) :
    Calls Tryd.prog 3 #[va, .int .i64 n0] w fun e w' => e = .returned (.bool true) ∧ Below w.heap.size w w' := by
  have hla : (cellsInt64S xs).length = xs.length := by simp
  by_cases hbig : 1048576 < (xs.length : Int)
  · obtain ⟨ao, cap, hv, _⟩ := ha
    rw [hla] at hv
    subst hv
    clear hza hL
    go_enter Tryd.func3, Tryd.ntmps3
    go_wp2
    go_ret
    exact ⟨rfl, Below.refl _ _⟩
  have hl : xs.length ≤ 1048576 := by omega
  have hshape : ∃ ao cap, va = .slice ao xs.length cap := by
    obtain ⟨ao, cap, hv, _⟩ := ha
    rw [hla] at hv
    exact ⟨ao, cap, hv⟩
  have HSP := fun (W : World) (v : Value) (h : Rd W v (cellsInt64S xs)) => specWinnerT_any v xs n0 W h hl n0h
  have HTAB : TabP w := tab_of hL
  have HIM := fun (W : World) (v : Value) (hB : Below w.heap.size w W) (h : Rd W v (cellsInt64S xs)) => implWinner_any v xs n0 W (tab_below HTAB hB) h hl n0h (fun x hx => (wf_i64 (hza x hx)).2)
  clear HTAB hL
  have hne : ∀ b : Int, (b != b) = false := fun b => by simp
  have hr0 := hne (winT xs n0)
  generalize winT xs n0 = z at hr0 HSP HIM
  clear hne
  have hB0 := Below.refl w.heap.size w
  have hb0s : w.heap.size ≤ w.heap.size := Nat.le_refl _
  obtain ⟨ao, cap, hva⟩ := hshape
  subst hva
  clear hza hla
  go_enter Tryd.func3, Tryd.ntmps3
  go_wp2_with fail
  refine (toInt64S_any _ xs _ (rd_below ha hB0) hl).mono ?_
  rintro e w1 ⟨v1, rfl, hoa1, hb1⟩
  have hB1 := hB0.trans (hb1.mono hB0.size)
  have hs1 := hb1.size
  have hva : ∀ k, v1.ownBlock = some k → w.heap.size ≤ k ∧ k < w1.heap.size := fun k h => hoa1.lt k h
  clear hb1 hB0
  go_wp2_with fail
  refine (HSP _ _ (rd_owns hoa1)).mono ?_
  rintro e w2 ⟨rfl, hb2⟩
  have hB2 := hB1.trans (hb2.mono hB1.size)
  have hs2 := hb2.size
  have hoa2 := owns_below hoa1 hb2
  clear hoa1 hb2 hB1
  clear hoa2
  go_wp2_with fail
  refine (toInt64S_any _ xs _ (rd_below ha hB2) hl).mono ?_
  rintro e w3 ⟨vx, rfl, hoX3, hb3⟩
  have hB3 := hB2.trans (hb3.mono hB2.size)
  have hs3 := hb3.size
  have hvX : ∀ k, vx.ownBlock = some k → w2.heap.size ≤ k ∧ k < w3.heap.size := fun k h => hoX3.lt k h
  clear hb3 hB2
  go_wp2_with fail
  refine (HIM _ _ hB3 (rd_owns hoX3)).mono ?_
  rintro e w4 ⟨rfl, hb4⟩
  have hB4 := hB3.trans (hb4.mono hB3.size)
  have hs4 := hb4.size
  have hoX4 := owns_below hoX3 hb4
  clear hoX3 hb4 hB3
  go_wp2_with fail
  refine (toInt64S_any _ xs _ (rd_below ha hB4) hl).mono ?_
  rintro e w5 ⟨v3, rfl, hoc5, hb5⟩
  have hB5 := hB4.trans (hb5.mono hB4.size)
  have hs5 := hb5.size
  have hoX5 := owns_below hoX4 hb5
  have hvc : ∀ k, v3.ownBlock = some k → w4.heap.size ≤ k ∧ k < w5.heap.size := fun k h => hoc5.lt k h
  clear hoX4 hb5 hB4
  go_wp2_with fail
  refine (eqInt64S_any vx v3 _ _ _ (rd_owns hoX5) (rd_owns hoc5) (by omega) (by omega)).mono ?_
  rintro e w6 ⟨rfl, hb6⟩
  have hB6 := hB5.trans (hb6.mono hB5.size)
  have hs6 := hb6.size
  have hoX6 := owns_below hoX5 hb6
  have hoc6 := owns_below hoc5 hb6
  rw [decide_eq_true rfl]
  clear hoX5 hoc5 hb6 hB5
  clear hoc6
  clear hoX6
  go_wp2
  go_ret
  exact ⟨rfl, hB6⟩

theorem door_met (os : Os) (args : Array Value) : laidMetH Tryd.prog Rows.fnExactWinnerRow.laid ((World.doorLaid Tryd.prog 400 os).forCall (fun _ _ => 0) ⟨#[], args, []⟩).memory :=
  laidMetH_of_parts3 (fuel := 8) (laidMet_of_run' 8 (by kernel_rfl) (by kernel_rfl)) (by kernel_rfl) (by kernel_rfl)
set_option maxRecDepth 100000 in
theorem lifted (os : Os) (started : os.Started) (H : Type) (enc : TypeId × Value → H) :
    ReturnsInHanded {} Tryd.checked os 3 .any (fun w args => (Rows.fnExactWinnerSpec.pre enc Tryd.prog Tryd.f3 [] false w args ∧ laidMetH Tryd.prog Rows.fnExactWinnerRow.laid w) ∧ sizedMet enc Tryd.prog Tryd.f3 (OpenSpec.ofChange Rows.fnExactWinnerSpec) false w args)
      (Rows.fnExactWinnerSpec.post enc Tryd.prog Tryd.f3 false true false false) := by
  refine returnsInHanded_of_change_and (C := Tryd.checked) (X := fun w _ => laidMetH Tryd.prog Rows.fnExactWinnerRow.laid w) (fun _ _ _ hh h => h.of_heap hh) own started (by kernel_rfl) Tryd.func3
    (ChangeSpec.witness_shaped (enc := enc) (C := Tryd.checked) (os := os) (X := fun w _ => laidMetH Tryd.prog Rows.fnExactWinnerRow.laid w) false (World.doorLaid Tryd.prog 400 os) #[.slice none 0 0, .int .i64 0] 8 rfl (World.shaped_of_RefB (by kernel_rfl) (by kernel_rfl)) (by kernel_rfl) (by kernel_rfl) (by kernel_rfl) (door_met os _)) ?_
  intro W base args ds gs before hval0 hW _ _ hL _
  have hval : ∀ (j : Nat) t v, Tryd.f3.params[j]? = some t → args[j]? = some v → Value.okWide Tryd.prog W .any base t v := hval0
  have hW' := hW
  obtain ⟨p, q, hA0, hV, rfl, hfz, hnd⟩ := hW
  have hA : DataW.TrodAll enc Tryd.prog W 0 (fun _ => true) true Tryd.f3.params.toList args.toList ds p := hA0
  rw [Tryd.params3] at hA hval
  obtain ⟨v0, vs0, d0, ds0, p0, q0, hargs0, rfl, rfl, h0, r0⟩ := trodAll_cons hA
  obtain ⟨v1, vs1, d1, ds1, p1, q1, hargs1, rfl, rfl, h1, r1⟩ := trodAll_cons r0
  obtain ⟨rfl, rfl, rfl⟩ := trodAll_nil r1
  obtain rfl : args = #[v0, v1] := by cases args; simp_all
  obtain ⟨rfl, rfl⟩ := trodVars_none hV
  obtain ⟨a0, len0, cap0, rfl⟩ := okWide_slice Tryd.underlying22 (hval 0 22 v0 rfl rfl)
  have k0 := h0
  have lt0 : ∀ x ∈ p0, x.block < W.heap.size := by obtain ⟨m, hm⟩ := k0; exact DataW.trod_lt m _ _ _ hm
  obtain ⟨zs0, hr0, hs0⟩ : ∃ zs : List Int, Rd W (.slice a0 len0 cap0) (zs.map (Value.int .i64)) ∧ ((∀ n ∈ zs, (Lit.int .i64 n).wf = true) ∧ zs.length ≤ 9223372036854775807) := by
    obtain ⟨fuel, hf⟩ := h0
    rcases open_ints Tryd.underlying22 Tryd.underlying2 (by kernel_rfl) hf with ⟨hcs, _⟩ | ⟨x, l, c, zs, hcs, _, hl, hm, hz, _, hcell, hwz⟩
    · simp [Value.cells] at hcs
      obtain ⟨rfl, rfl, rfl⟩ := hcs
      exact ⟨[], ⟨none, 0, rfl, Nat.le_refl _, fun h => absurd rfl h⟩, (fun x hx => absurd hx List.not_mem_nil), Nat.zero_le _⟩
    · simp [Value.cells] at hcs
      obtain ⟨rfl, rfl, rfl⟩ := hcs
      exact arg_ints .i64 hl hm (by simpa using hz) hcell hwz
  obtain ⟨a1, rfl, rfl, rfl, w1⟩ := open_int Tryd.underlying2 (hval 1 2 v1 rfl rfl) h1
  clear hA0 hval0
  refine (walk _ zs0 a1 W hL hr0 hs0.1 hs0.2 (wf_i64 w1).1 (wf_i64 w1).2).mono fun e W' ⟨he, bel⟩ => ?_
  subst he
  exact ⟨_, rfl, _, _, _, [], _, [], hW', trodAll_mk1 (shut_bool Tryd.underlying4 _), (trodAll_cons_mk (Below.trod laidOut (by kernel_rfl) (of_decide_eq_true (by kernel_rfl)) k0 bel lt0) (trodAll_cons_mk (shut_int Tryd.underlying2 w1) trodAll_mk0)), rfl, bel.frame _, fun h => by cases h⟩

theorem over : Rows.fnExactWinnerRow.holds Tryd.pinned (OpenSpec.ofChange Rows.fnExactWinnerSpec) :=
  OpenClaim.holds_of_wide 3 Tryd.f3 rfl rfl rfl rfl rfl rfl rfl ⟨rfl, rfl, rfl, rfl, rfl⟩ rfl rfl rfl rfl rfl (by kernel_rfl) Tryd.func3 (by kernel_rfl)
    (of_decide_eq_true (by kernel_rfl)) (by unfold Func.isWrapper; first | (rw [if_pos (by decide +kernel)]; kernel_rfl) | (rw [if_neg (by decide +kernel)]; exact ⟨rfl, rfl⟩))
    (fun os started H enc _ => lifted os started H enc)

theorem proved : Rows.FnExactWinnerCardSaid :=
  Claim7.holds_tied_plain_at .later [] Rows.fnExactWinnerCard.laidKinds true Rows.fnExactWinnerCard.stood.harness Rows.fnExactWinnerCard.stood.looks
    over (fun _ h => by cases h) (by kernel_rfl) (fun _ h => by cases h) fnExactWinner_row_tie rfl ⟨rfl, rfl⟩ (by kernel_rfl) rfl
    (fun f fn hf hfn => by
      obtain rfl : f = 3 := Option.some.inj ((show Tryd.prog.funcNamed Rows.fnExactWinnerRow.func = some 3 by kernel_rfl).symm.trans hf) |>.symm
      obtain rfl : fn = Tryd.f3 := (Option.some.inj (Tryd.func3.symm.trans hfn)).symm
      exact ⟨by kernel_rfl, fun j t ht => by
        rw [Tryd.params3] at ht
        have hm : t ∈ [22, 2] := by simpa using Array.mem_of_getElem? ht
        have hall : ([22, 2].all fun u => !Tryd.prog.wantsStandIn u) = true := by kernel_rfl
        exact (show Tryd.prog.wantsStandIn t = false by simpa using List.all_eq_true.1 hall t hm)⟩)
    (by kernel_rfl)
end Go.Proofs.YtidmaaglfckcbapDoor.exWinner
