/- FnExactOwner: at every argument impl.Owner answers as spec.Owner, writes into no argument and keeps nothing of one. For every one, without a condition. (Written by lawgen11.py.) -/
import Derived.Test.YtjjaephhnlhnkaoRngS
import Derived.Test.YtjjaephhnlhnkaoRngO
import Derived.Test.YtjjaephhnlhnkaoArgDots
namespace Go.Proofs.Ytjjaephhnlhnkao.exOwner
open Go.ChangeShapes Go.WideShapes Go.ChangeAt Go.RowKit
set_option linter.unusedVariables false

set_option maxHeartbeats 4000000 in
set_option maxRecDepth 100000 in
theorem walk (va : Value) (xs : List Dt) (n0 : Int) (w : World) (ha : RdG dtf 2 w va xs) (hza : ∀ s ∈ xs, (Lit.int .i64 s.1).wf = true ∧ (Lit.int .i64 s.2).wf = true) (hna : xs.length ≤ 9223372036854775807) (n0l : -9223372036854775808 ≤ n0) (n0h : n0 ≤ 9223372036854775807) :
    Calls Try.prog 4 #[va, .int .i64 n0] w fun e w' => e = .returned (.bool true) ∧ Below w.heap.size w w' := by
  have hsz := szDotS_any va xs 1048576 w ha hna (by omega) (by omega)
  by_cases hbig : (1048576 : Int) - (xs.length : Int) < 0
  · rw [if_pos hbig] at hsz
    obtain ⟨ao, cap, rfl⟩ := rdG_shape ha
    clear ha hza
    go_enter Try.func4, Try.ntmps4
    go_wp2_with fail
    refine hsz.mono ?_
    rintro e w1 ⟨rfl, rfl⟩
    clear hsz
    go_wp2
    go_ret
    exact ⟨rfl, Below.refl _ _⟩
  rw [if_neg hbig] at hsz
  have hl : xs.length ≤ 1048576 := by omega
  have hbn : ¬ (1048576 : Int) - (xs.length : Int) < 0 := hbig
  have HSP := fun (W : World) (v : Value) (h : RdG dtf 2 W v xs) => specOwner_any v xs n0 W h hl
  have HIM := fun (W : World) (v : Value) (h : RdG dtf 2 W v xs) => implOwner_any v xs n0 W h hl
  have hne : ∀ b : Int, (b != b) = false := fun b => by simp
  have hr0 := hne (ownT xs n0)
  generalize ownT xs n0 = z at hr0 HSP HIM
  clear hne
  have hB0 := Below.refl w.heap.size w
  have hb0s : w.heap.size ≤ w.heap.size := Nat.le_refl _
  obtain ⟨ao, cap, hva⟩ := rdG_shape ha
  subst hva
  go_enter Try.func4, Try.ntmps4
  go_wp2_with fail
  refine hsz.mono ?_
  rintro e w0 ⟨rfl, hw0⟩
  replace hw0 := hw0.symm
  subst hw0
  clear hsz hza
  go_wp2_with fail
  refine (toDotS_any _ xs _ (rdG_below ha hB0) hl).mono ?_
  rintro e w1 ⟨v1, rfl, hoa1, hb1⟩
  have hB1 := hB0.trans (hb1.mono hB0.size)
  have hs1 := hb1.size
  have hva : ∀ k, v1.ownBlock = some k → w.heap.size ≤ k ∧ k < w1.heap.size := fun k h => hoa1.lt k h
  clear hb1 hB0
  go_wp2_with fail
  refine (HSP _ _ (rdG_owns dtW hoa1)).mono ?_
  rintro e w2 ⟨rfl, hb2⟩
  have hB2 := hB1.trans (hb2.mono hB1.size)
  have hs2 := hb2.size
  have hoa2 := owns_below hoa1 hb2
  clear hoa1 hb2 hB1
  clear hoa2
  go_wp2_with fail
  refine (toDotS_any _ xs _ (rdG_below ha hB2) hl).mono ?_
  rintro e w3 ⟨vx, rfl, hoX3, hb3⟩
  have hB3 := hB2.trans (hb3.mono hB2.size)
  have hs3 := hb3.size
  have hvX : ∀ k, vx.ownBlock = some k → w2.heap.size ≤ k ∧ k < w3.heap.size := fun k h => hoX3.lt k h
  clear hb3 hB2
  go_wp2_with fail
  refine (HIM _ _ (rdG_owns dtW hoX3)).mono ?_
  rintro e w4 ⟨rfl, hb4⟩
  have hB4 := hB3.trans (hb4.mono hB3.size)
  have hs4 := hb4.size
  have hoX4 := owns_below hoX3 hb4
  clear hoX3 hb4 hB3
  go_wp2_with fail
  refine (toDotS_any _ xs _ (rdG_below ha hB4) hl).mono ?_
  rintro e w5 ⟨v3, rfl, hoc5, hb5⟩
  have hB5 := hB4.trans (hb5.mono hB4.size)
  have hs5 := hb5.size
  have hoX5 := owns_below hoX4 hb5
  have hvc : ∀ k, v3.ownBlock = some k → w4.heap.size ≤ k ∧ k < w5.heap.size := fun k h => hoc5.lt k h
  clear hoX4 hb5 hB4
  go_wp2_with fail
  refine (eqDotS_same vx v3 xs _ (rdG_owns dtW hoX5) (rdG_owns dtW hoc5) hl).mono ?_
  rintro e w6 ⟨rfl, hb6⟩
  have hB6 := hB5.trans (hb6.mono hB5.size)
  have hs6 := hb6.size
  have hoX6 := owns_below hoX5 hb6
  have hoc6 := owns_below hoc5 hb6
  clear hoX5 hoc5 hb6 hB5
  clear hoc6
  clear hoX6
  go_wp2
  go_ret
  exact ⟨rfl, hB6⟩

set_option maxRecDepth 100000 in
theorem lifted (os : Os) (started : os.Started) (H : Type) (enc : TypeId × Value → H) :
    ReturnsInHanded {} Try.checked os 4 .any (Rows.fnExactOwnerSpec.pre6 enc Try.prog Try.f4 Rows.fnExactOwnerRow.domain false) (Rows.fnExactOwnerSpec.post enc Try.prog Try.f4 false true false false) := by
  refine returnsInHanded_of_change (C := Try.checked) own started (by kernel_rfl) Try.func4
    (ChangeSpec.witness6 (enc := enc) (C := Try.checked) false ⟨#[], #[.slice none 0 0, .int .i64 0], []⟩ 8 (by kernel_rfl) (by kernel_rfl) (by kernel_rfl) (by kernel_rfl)) ?_
  intro W base args ds gs before hval0 hW hcnd _
  have hval : ∀ (j : Nat) t v, Try.f4.params[j]? = some t → args[j]? = some v → Value.okWide Try.prog W .any base t v := hval0
  have hW' := hW
  obtain ⟨p, q, hA0, hV, rfl, hfz, hnd⟩ := hW
  have hA : DataW.TrodAll enc Try.prog W 0 (fun _ => true) true Try.f4.params.toList args.toList ds p := hA0
  rw [Try.params4] at hA hval
  obtain ⟨v0, vs0, d0, ds0, p0, q0, hargs0, rfl, rfl, h0, r0⟩ := trodAll_cons hA
  obtain ⟨v1, vs1, d1, ds1, p1, q1, hargs1, rfl, rfl, h1, r1⟩ := trodAll_cons r0
  obtain ⟨rfl, rfl, rfl⟩ := trodAll_nil r1
  obtain rfl : args = #[v0, v1] := by cases args; simp_all
  obtain ⟨rfl, rfl⟩ := trodVars_none hV
  obtain ⟨a0, len0, cap0, rfl⟩ := okWide_slice Try.underlying22 (hval 0 22 v0 rfl rfl)
  have k0 := h0
  have lt0 : ∀ x ∈ p0, x.block < W.heap.size := by obtain ⟨m, hm⟩ := k0; exact DataW.trod_lt m _ _ _ hm
  obtain ⟨zs0, hr0, hs0⟩ := arg_dots h0
  obtain ⟨a1, rfl, rfl, rfl, w1⟩ := open_int Try.underlying2 (hval 1 2 v1 rfl rfl) h1
  clear hA0 hval0
  refine (walk _ zs0 a1 W hr0 hs0.1 hs0.2 (wf_i64 w1).1 (wf_i64 w1).2).mono fun e W' ⟨he, bel⟩ => ?_
  subst he
  exact ⟨_, rfl, _, _, _, [], _, [], hW', trodAll_mk1 (shut_bool Try.underlying4 _), (trodAll_cons_mk (Below.trod laidOut (by kernel_rfl) (of_decide_eq_true (by kernel_rfl)) k0 bel lt0) (trodAll_cons_mk (shut_int Try.underlying2 w1) trodAll_mk0)), rfl, bel.frame _, fun h => by cases h⟩

theorem over : Rows.fnExactOwnerRow.holds Try.pinned (OpenSpec.ofChange Rows.fnExactOwnerSpec) :=
  OpenClaim.holds_of_wide 4 Try.f4 rfl rfl rfl rfl rfl rfl rfl ⟨rfl, rfl, rfl, rfl, rfl⟩ rfl rfl rfl rfl rfl (by kernel_rfl) Try.func4 (by kernel_rfl)
    (of_decide_eq_true (by kernel_rfl)) (by unfold Func.isWrapper; first | (rw [if_pos (by decide +kernel)]; kernel_rfl) | (rw [if_neg (by decide +kernel)]; exact ⟨rfl, rfl⟩))
    (fun os started H enc _ => lifted os started H enc)

theorem proved : Rows.FnExactOwnerSaid := over
end Go.Proofs.Ytjjaephhnlhnkao.exOwner
