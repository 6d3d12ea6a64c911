/- FnExactPatched: at every text, row of Bits and number impl.Patched answers as spec.Patched and writes into no argument. For every one, without a condition. -/
import Derived.Test.YtdiammehnakchanArgBits
import Derived.Test.YtdiammehnakchanBitE
import Derived.Test.YtdiammehnakchanPatI
namespace Go.Proofs.Ytdiammehnakchan.exPatched
open Go.ChangeShapes Go.WideShapes Go.ChangeAt Go.RowKit
open Go.ChangeMaps (open_string shut_string)
set_option linter.unusedVariables false

set_option maxHeartbeats 2000000 in
set_option maxRecDepth 100000 in
theorem walk (s : ByteArray) (va : Value) (xs : List Bl) (n : Int) (w : World) (hm : s.size ≤ maxLen) (ha : RdB w va xs) (hs : ∀ p ∈ xs, p.2.size ≤ 9223372036854775807) (hn : xs.length ≤ 9223372036854775807) (_h1 : -9223372036854775808 ≤ n) (_h2 : n ≤ 9223372036854775807) :
    Calls Try.prog 3 #[.string s, va, .int .i64 n] w fun e w' => e = .returned (.bool true) ∧ Below w.heap.size w w' := by
  clear _h1 _h2
  by_cases hbig : 1048576 < (s.size : Int)
  · clear ha hs hn
    go_enter Try.func3, Try.ntmps3
    go_wp2
    go_ret
    exact ⟨rfl, Below.refl _ _⟩
  have hsz := szBitS_any va xs 1048576 w ha hn hs (by omega) (by omega)
  have HS : Hid (0 ≤ szS (txs xs) 1048576 → xs.length ≤ 1048576 ∧ ∀ p ∈ xs, p.2.size ≤ 1048576) := fun h => by
    obtain ⟨h1, h2⟩ := szS_nonneg h
    rw [List.length_map] at h1
    refine ⟨by omega, fun p hp => ?_⟩
    have := h2 p.2 (List.mem_map_of_mem hp)
    omega
  obtain ⟨z, hz⟩ : ∃ z, z = szS (txs xs) 1048576 := ⟨_, rfl⟩
  rw [← hz] at hsz HS
  clear hz hs hn
  by_cases hneg : z < 0
  · clear ha
    go_enter Try.func3, Try.ntmps3
    go_wp2_with fail
    refine hsz.mono ?_
    rintro e w1 ⟨rfl, hb1⟩
    clear hsz
    go_wp2
    go_ret
    exact ⟨rfl, hb1⟩
  obtain ⟨hl, hst⟩ := HS.out (by omega)
  have HSP := fun (W : World) (v : Value) (h : RdB W v xs) => specPatched_any s v xs n W h hl hst
  have HIM := fun (W : World) (v : Value) (h : RdB W v xs) => implPatched_any s v xs n W h hl hst
  unfold patR at HSP HIM
  obtain ⟨t, ht⟩ : ∃ t, t = (patchT s xs n).getD ⟨#[]⟩ := ⟨_, rfl⟩
  obtain ⟨q, hq⟩ : ∃ q, q = (patchT s xs n).isSome := ⟨_, rfl⟩
  rw [← ht, ← hq] at HSP HIM
  have htt : (!t.toList == t.toList) = false := by simp
  have hqq : (q != q) = false := by simp
  clear ht hq hst HS
  go_enter Try.func3, Try.ntmps3
  go_wp2_with fail
  refine hsz.mono ?_
  rintro e w0 ⟨rfl, hB0⟩
  clear hsz
  have hb0s := hB0.size
  go_wp2_with fail
  refine (toBitS_any _ xs _ (rdB_below ha hB0) hl).mono ?_
  rintro e w1 ⟨v1, rfl, ho1, hb1⟩
  have hB1 := hB0.trans (hb1.mono hB0.size)
  go_wp2_with fail
  refine (HSP _ _ (rdB_owns ho1)).mono ?_
  rintro e w2 ⟨rfl, hb2⟩
  have hB2 := hB1.trans (hb2.mono hB1.size)
  clear hb1 hb2 ho1 hB0 hB1
  go_wp2_with fail
  refine (toBitS_any _ xs _ (rdB_below ha hB2) hl).mono ?_
  rintro e w3 ⟨v3, rfl, ho3, hb3⟩
  have hB3 := hB2.trans (hb3.mono hB2.size)
  go_wp2_with fail
  refine (HIM _ _ (rdB_owns ho3)).mono ?_
  rintro e w4 ⟨rfl, hb4⟩
  have ho4 := owns_below ho3 hb4
  have hB4 := hB3.trans (hb4.mono hB3.size)
  clear hb3 hb4 ho3 hB2 hB3
  go_wp2_with fail
  refine (toBitS_any _ xs _ (rdB_below ha hB4) hl).mono ?_
  rintro e w5 ⟨v5, rfl, ho5, hb5⟩
  have ho45 := owns_below ho4 hb5
  have hB5 := hB4.trans (hb5.mono hB4.size)
  clear hb5 ho4 hB4
  go_wp2_with fail
  refine (eqBitS_same v3 v5 xs _ (rdB_owns ho45) (rdB_owns ho5) hl).mono ?_
  rintro e w6 ⟨rfl, hb6⟩
  have hB6 := hB5.trans (hb6.mono hB5.size)
  clear hb6 ho5 ho45 hB5 ha
  go_wp2
  go_ret
  exact ⟨rfl, hB6⟩
set_option maxRecDepth 100000 in
theorem lifted (os : Os) (started : os.Started) (H : Type) (enc : TypeId × Value → H) :
    ReturnsInHanded {} Try.checked os 3 .any (Rows.fnExactPatchedSpec.pre6 enc Try.prog Try.f3 Rows.fnExactPatchedRow.domain false) (Rows.fnExactPatchedSpec.post enc Try.prog Try.f3 false true false false) := by
  refine returnsInHanded_of_change (C := Try.checked) own started (by kernel_rfl) Try.func3
    (ChangeSpec.witness6 (enc := enc) (C := Try.checked) false ⟨#[], #[.string ⟨#[]⟩, .slice none 0 0, .int .i64 0], []⟩ 8 (by kernel_rfl) (by kernel_rfl) (by kernel_rfl) (by kernel_rfl)) ?_
  intro W base args ds gs before hval0 hW hcnd _
  have hval : ∀ (j : Nat) t v, Try.f3.params[j]? = some t → args[j]? = some v → Value.okWide Try.prog W .any base t v := hval0
  have hW' := hW
  obtain ⟨p, q, hA0, hV, rfl, hfz, hnd⟩ := hW
  have hA : DataW.TrodAll enc Try.prog W 0 (fun _ => true) true Try.f3.params.toList args.toList ds p := hA0
  rw [Try.params3] at hA hval
  obtain ⟨v0, vs0, d0, ds0, p0, q0, hargs0, rfl, rfl, h0, r0⟩ := trodAll_cons hA
  obtain ⟨v1, vs1, d1, ds1, p1, q1, hargs1, rfl, rfl, h1, r1⟩ := trodAll_cons r0
  obtain ⟨v2, vs2, d2, ds2, p2, q2, hargs2, rfl, rfl, h2, r2⟩ := trodAll_cons r1
  obtain ⟨rfl, rfl, rfl⟩ := trodAll_nil r2
  obtain rfl : args = #[v0, v1, v2] := by cases args; simp_all
  obtain ⟨rfl, rfl⟩ := trodVars_none hV
  obtain ⟨s0, rfl, rfl, rfl, hs0⟩ := open_string Try.underlying9 (hval 0 9 v0 rfl rfl) h0
  obtain ⟨a1, len1, cap1, rfl⟩ := okWide_slice Try.underlying22 (hval 1 22 v1 rfl rfl)
  have k1 := h1
  have lt1 : ∀ x ∈ p1, x.block < W.heap.size := by obtain ⟨m, hm⟩ := k1; exact DataW.trod_lt m _ _ _ hm
  obtain ⟨zs1, hr1, hs1⟩ := arg_bits h1
  obtain ⟨a2, rfl, rfl, rfl, w2⟩ := open_int Try.underlying2 (hval 2 2 v2 rfl rfl) h2
  clear hA0 hval0
  refine (walk s0 _ zs1 a2 W hs0 hr1 hs1.1 hs1.2 (wf_i64 w2).1 (wf_i64 w2).2).mono fun e W' ⟨he, bel⟩ => ?_
  subst he
  exact ⟨_, rfl, _, _, _, [], _, [], hW', trodAll_mk1 (shut_bool Try.underlying4 _), (trodAll_cons_mk (shut_string Try.underlying9 hs0) (trodAll_cons_mk (Below.trod laidOut (by kernel_rfl) (of_decide_eq_true (by kernel_rfl)) k1 bel lt1) (trodAll_cons_mk (shut_int Try.underlying2 w2) trodAll_mk0))), rfl, bel.frame _, fun h => by cases h⟩

theorem over : Rows.fnExactPatchedRow.holds Try.pinned (OpenSpec.ofChange Rows.fnExactPatchedSpec) :=
  OpenClaim.holds_of_wide 3 Try.f3 rfl rfl rfl rfl rfl rfl rfl ⟨rfl, rfl, rfl, rfl, rfl⟩ rfl rfl rfl rfl rfl (by kernel_rfl) Try.func3 (by kernel_rfl)
    (of_decide_eq_true (by kernel_rfl)) (by unfold Func.isWrapper; first | (rw [if_pos (by decide +kernel)]; kernel_rfl) | (rw [if_neg (by decide +kernel)]; exact ⟨rfl, rfl⟩))
    (fun os started H enc _ => lifted os started H enc)

theorem proved : Rows.FnExactPatchedSaid := over
end Go.Proofs.Ytdiammehnakchan.exPatched
