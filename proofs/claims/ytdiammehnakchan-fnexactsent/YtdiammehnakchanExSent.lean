/- FnExactSent: at every row of Bits impl.Sent answers as spec.Sent and writes into no argument. For every one, without a condition. -/
import Derived.Test.YtdiammehnakchanArgBits
import Derived.Test.YtdiammehnakchanBitE
import Derived.Test.YtdiammehnakchanSent
namespace Go.Proofs.Ytdiammehnakchan.exSent
open Go.ChangeShapes Go.WideShapes Go.ChangeAt Go.RowKit
set_option linter.unusedVariables false

set_option maxHeartbeats 2000000 in
set_option maxRecDepth 100000 in
theorem walk (va : Value) (xs : List Bl) (w : World) (ha : RdB w va xs) (hs : ∀ p ∈ xs, p.2.size ≤ 9223372036854775807) (hn : xs.length ≤ 9223372036854775807) :
    Calls Try.prog 4 #[va] w fun e w' => e = .returned (.bool true) ∧ Below w.heap.size w w' := by
  have hsz := szBitS_any va xs 1048576 w ha hn hs (by omega) (by omega)
  have HS : Hid (0 ≤ szS (txs xs) 1048576 → xs.length ≤ 1048576 ∧ ∀ p ∈ xs, p.2.size ≤ 1048576) := fun h => by
    obtain ⟨h1, h2⟩ := szS_nonneg h
    rw [List.length_map] at h1
    refine ⟨by omega, fun p hp => ?_⟩
    have := h2 p.2 (List.mem_map_of_mem hp)
    omega
  obtain ⟨z, hz⟩ : ∃ z, z = szS (txs xs) 1048576 := ⟨_, rfl⟩
  rw [← hz] at hsz HS
  clear hz hs hn
  by_cases hneg : z < 0
  · clear ha
    go_enter Try.func4, Try.ntmps4
    go_wp2_with fail
    refine hsz.mono ?_
    rintro e w1 ⟨rfl, hb1⟩
    clear hsz
    go_wp2
    go_ret
    exact ⟨rfl, hb1⟩
  obtain ⟨hl, hst⟩ := HS.out (by omega)
  have HSS := fun (W : World) (v : Value) (h : RdB W v xs) => specSent_any v xs W h hl hst
  have HIS := fun (W : World) (v : Value) (h : RdB W v xs) => implSent_any v xs W h hl hst
  generalize sentT xs = S at HSS HIS
  have hSS : ((S : Int) != (S : Int)) = false := by simp
  clear hst HS
  go_enter Try.func4, Try.ntmps4
  go_wp2_with fail
  refine hsz.mono ?_
  rintro e w0 ⟨rfl, hB0⟩
  clear hsz
  have hb0s := hB0.size
  go_wp2_with fail
  refine (toBitS_any _ xs _ (rdB_below ha hB0) hl).mono ?_
  rintro e w1 ⟨v1, rfl, ho1, hb1⟩
  have hB1 := hB0.trans (hb1.mono hB0.size)
  go_wp2_with fail
  refine (HSS _ _ (rdB_owns ho1)).mono ?_
  rintro e w2 ⟨rfl, hb2⟩
  have hB2 := hB1.trans (hb2.mono hB1.size)
  clear hb1 hb2 ho1 hB0 hB1
  go_wp2_with fail
  refine (toBitS_any _ xs _ (rdB_below ha hB2) hl).mono ?_
  rintro e w3 ⟨v3, rfl, ho3, hb3⟩
  have hB3 := hB2.trans (hb3.mono hB2.size)
  go_wp2_with fail
  refine (HIS _ _ (rdB_owns ho3)).mono ?_
  rintro e w4 ⟨rfl, hb4⟩
  have ho4 := owns_below ho3 hb4
  have hB4 := hB3.trans (hb4.mono hB3.size)
  clear hb3 hb4 ho3 hB2 hB3
  go_wp2_with fail
  refine (toBitS_any _ xs _ (rdB_below ha hB4) hl).mono ?_
  rintro e w5 ⟨v5, rfl, ho5, hb5⟩
  have ho45 := owns_below ho4 hb5
  have hB5 := hB4.trans (hb5.mono hB4.size)
  clear hb5 ho4 hB4
  go_wp2_with fail
  refine (eqBitS_same v3 v5 xs _ (rdB_owns ho45) (rdB_owns ho5) hl).mono ?_
  rintro e w6 ⟨rfl, hb6⟩
  have hB6 := hB5.trans (hb6.mono hB5.size)
  clear hb6 ho5 ho45 hB5 ha
  go_wp2
  go_ret
  exact ⟨rfl, hB6⟩
set_option maxRecDepth 100000 in
theorem lifted (os : Os) (started : os.Started) (H : Type) (enc : TypeId × Value → H) :
    ReturnsInHanded {} Try.checked os 4 .any (Rows.fnExactSentSpec.pre6 enc Try.prog Try.f4 Rows.fnExactSentRow.domain false) (Rows.fnExactSentSpec.post enc Try.prog Try.f4 false true false false) := by
  refine returnsInHanded_of_change (C := Try.checked) own started (by kernel_rfl) Try.func4
    (ChangeSpec.witness6 (enc := enc) (C := Try.checked) false ⟨#[], #[.slice none 0 0], []⟩ 8 (by kernel_rfl) (by kernel_rfl) (by kernel_rfl) (by kernel_rfl)) ?_
  intro W base args ds gs before hval0 hW hcnd _
  have hval : ∀ (j : Nat) t v, Try.f4.params[j]? = some t → args[j]? = some v → Value.okWide Try.prog W .any base t v := hval0
  have hW' := hW
  obtain ⟨p, q, hA0, hV, rfl, hfz, hnd⟩ := hW
  have hA : DataW.TrodAll enc Try.prog W 0 (fun _ => true) true Try.f4.params.toList args.toList ds p := hA0
  rw [Try.params4] at hA hval
  obtain ⟨v0, vs0, d0, ds0, p0, q0, hargs0, rfl, rfl, h0, r0⟩ := trodAll_cons hA
  obtain ⟨rfl, rfl, rfl⟩ := trodAll_nil r0
  obtain rfl : args = #[v0] := by cases args; simp_all
  obtain ⟨rfl, rfl⟩ := trodVars_none hV
  obtain ⟨a0, len0, cap0, rfl⟩ := okWide_slice Try.underlying22 (hval 0 22 v0 rfl rfl)
  have k0 := h0
  have lt0 : ∀ x ∈ p0, x.block < W.heap.size := by obtain ⟨m, hm⟩ := k0; exact DataW.trod_lt m _ _ _ hm
  obtain ⟨zs0, hr0, hs0⟩ := arg_bits h0
  clear hA0 hval0
  refine (walk _ zs0 W hr0 hs0.1 hs0.2).mono fun e W' ⟨he, bel⟩ => ?_
  subst he
  exact ⟨_, rfl, _, _, _, [], _, [], hW', trodAll_mk1 (shut_bool Try.underlying4 _), (trodAll_cons_mk (Below.trod laidOut (by kernel_rfl) (of_decide_eq_true (by kernel_rfl)) k0 bel lt0) trodAll_mk0), rfl, bel.frame _, fun h => by cases h⟩

theorem over : Rows.fnExactSentRow.holds Try.pinned (OpenSpec.ofChange Rows.fnExactSentSpec) :=
  OpenClaim.holds_of_wide 4 Try.f4 rfl rfl rfl rfl rfl rfl rfl ⟨rfl, rfl, rfl, rfl, rfl⟩ rfl rfl rfl rfl rfl (by kernel_rfl) Try.func4 (by kernel_rfl)
    (of_decide_eq_true (by kernel_rfl)) (by unfold Func.isWrapper; first | (rw [if_pos (by decide +kernel)]; kernel_rfl) | (rw [if_neg (by decide +kernel)]; exact ⟨rfl, rfl⟩))
    (fun os started H enc _ => lifted os started H enc)

theorem proved : Rows.FnExactSentSaid := over
end Go.Proofs.Ytdiammehnakchan.exSent
