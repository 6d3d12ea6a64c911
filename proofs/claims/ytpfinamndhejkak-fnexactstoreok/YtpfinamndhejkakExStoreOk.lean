/- FnExactStoreOk: at every row of blobs impl.StoreOk answers as spec.StoreOk. For every row, without a condition. -/
import Derived.Test.YtpfinamndhejkakArgBlobs
import Derived.Test.YtpfinamndhejkakBlobE
import Derived.Test.YtpfinamndhejkakBlR
namespace Go.Proofs.Ytpfinamndhejkak.exStoreOk
open Go.ChangeShapes Go.WideShapes Go.ChangeAt Go.RowKit
set_option linter.unusedVariables false

set_option maxRecDepth 100000 in
theorem walk (va : Value) (xs : List Bl) (w : World) (ha : RdB w va xs) (hs : ∀ p ∈ xs, p.2.size ≤ 9223372036854775807) (hn : xs.length ≤ 9223372036854775807) :
    Calls Try.prog 8 #[va] w fun e w' => e = .returned (.bool true) ∧ Below w.heap.size w w' := by
  have hsz := szBlobS_any va xs 1048576 w ha hn hs (by omega) (by omega)
  have HS : Hid (0 ≤ szS (txs xs) 1048576 → xs.length ≤ 1048576 ∧ ∀ p ∈ xs, p.2.size ≤ 1048576) := fun h => by
    obtain ⟨h1, h2⟩ := szS_nonneg h
    rw [List.length_map] at h1
    refine ⟨by omega, fun p hp => ?_⟩
    have := h2 p.2 (List.mem_map_of_mem hp)
    omega
  obtain ⟨z, hz⟩ : ∃ z, z = szS (txs xs) 1048576 := ⟨_, rfl⟩
  rw [← hz] at hsz HS
  clear hz hs hn
  by_cases hneg : z < 0
  · go_enter Try.func8, Try.ntmps8
    go_wp2_with fail
    refine hsz.mono ?_
    rintro e w1 ⟨rfl, hb1⟩
    clear hsz
    go_wp2
    go_ret
    exact ⟨rfl, hb1⟩
  · obtain ⟨hl, hst⟩ := HS.out (by omega)
    have HST := Lib.hid hst
    clear hst HS
    have hne : ∀ b : Bool, (b != b) = false := by decide
    have hr := hne (storeB xs)
    go_enter Try.func8, Try.ntmps8
    go_wp2_with fail
    refine hsz.mono ?_
    rintro e w0 ⟨rfl, hb0⟩
    clear hsz
    have s0 := hb0.size
    have ha0 := rdB_below ha hb0
    go_wp2_with fail
    refine (toBlobS_any _ xs _ ha0 hl).mono ?_
    rintro e w1 ⟨v1, rfl, ho1, hb1⟩
    have hB1 := hb0.trans (hb1.mono s0)
    go_wp2_with fail
    refine (specStoreOk_any v1 xs _ (rdB_owns ho1) hl HST.out).mono ?_
    rintro e w2 ⟨rfl, hb2⟩
    have hB2 := hB1.trans (hb2.mono hB1.size)
    generalize hg : storeB xs = b at hr ⊢
    clear hb0 hb1 hB1 hb2 ho1 ha0
    go_wp2_with fail
    refine (toBlobS_any _ xs _ (rdB_below ha hB2) hl).mono ?_
    rintro e w3 ⟨v3, rfl, ho3, hb3⟩
    have hB3 := hB2.trans (hb3.mono hB2.size)
    clear hB2 hb3
    go_wp2_with fail
    refine (implStoreOk_any v3 xs _ (rdB_owns ho3) hl HST.out).mono ?_
    rintro e w4 ⟨rfl, hb4⟩
    rw [hg]
    have hB4 := hB3.trans (hb4.mono hB3.size)
    have ho4 := owns_below ho3 hb4
    clear hB3 hb4 ho3 hg
    go_wp2_with fail
    refine (toBlobS_any _ xs _ (rdB_below ha hB4) hl).mono ?_
    rintro e w5 ⟨v5, rfl, ho5, hb5⟩
    have hB5 := hB4.trans (hb5.mono hB4.size)
    have ho45 := owns_below ho4 hb5
    clear hB4 hb5 ho4
    go_wp2_with fail
    refine (eqBlobS_same v3 v5 xs _ (rdB_owns ho45) (rdB_owns ho5) hl).mono ?_
    rintro e w6 ⟨rfl, hb6⟩
    have hB6 := hB5.trans (hb6.mono hB5.size)
    clear hB5 hb6 ho45 ho5
    go_wp2
    go_ret
    exact ⟨rfl, hB6⟩

set_option maxRecDepth 100000 in
theorem lifted (os : Os) (started : os.Started) (H : Type) (enc : TypeId × Value → H) :
    ReturnsInHanded {} Try.checked os 8 .any (Rows.fnExactStoreOkSpec.pre6 enc Try.prog Try.f8 Rows.fnExactStoreOkRow.domain false) (Rows.fnExactStoreOkSpec.post enc Try.prog Try.f8 false true false false) := by
  refine returnsInHanded_of_change (C := Try.checked) own started (by kernel_rfl) Try.func8
    (ChangeSpec.witness6 (enc := enc) (C := Try.checked) false ⟨#[], #[.slice none 0 0], []⟩ 8 (by kernel_rfl) (by kernel_rfl) (by kernel_rfl) (by kernel_rfl)) ?_
  intro W base args ds gs before hval0 hW hcnd _
  have hval : ∀ (j : Nat) t v, Try.f8.params[j]? = some t → args[j]? = some v → Value.okWide Try.prog W .any base t v := hval0
  have hW' := hW
  obtain ⟨p, q, hA0, hV, rfl, hfz, hnd⟩ := hW
  have hA : DataW.TrodAll enc Try.prog W 0 (fun _ => true) true Try.f8.params.toList args.toList ds p := hA0
  rw [Try.params8] at hA hval
  obtain ⟨v0, vs0, d0, ds0, p0, q0, hargs0, rfl, rfl, h0, r0⟩ := trodAll_cons hA
  obtain ⟨rfl, rfl, rfl⟩ := trodAll_nil r0
  obtain rfl : args = #[v0] := by cases args; simp_all
  obtain ⟨rfl, rfl⟩ := trodVars_none hV
  obtain ⟨a0, len0, cap0, rfl⟩ := okWide_slice Try.underlying33 (hval 0 33 v0 rfl rfl)
  have k0 := h0
  have lt0 : ∀ x ∈ p0, x.block < W.heap.size := by obtain ⟨m, hm⟩ := k0; exact DataW.trod_lt m _ _ _ hm
  obtain ⟨zs0, hr0, hs0⟩ := arg_blobs h0
  clear hA0 hval0
  refine (walk _ zs0 W hr0 hs0.1 hs0.2).mono fun e W' ⟨he, bel⟩ => ?_
  subst he
  exact ⟨_, rfl, _, _, _, [], _, [], hW', trodAll_mk1 (shut_bool Try.underlying4 _), (trodAll_cons_mk (Below.trod laidOut (by kernel_rfl) (of_decide_eq_true (by kernel_rfl)) k0 bel lt0) trodAll_mk0), rfl, bel.frame _, fun h => by cases h⟩

theorem over : Rows.fnExactStoreOkRow.holds Try.pinned (OpenSpec.ofChange Rows.fnExactStoreOkSpec) :=
  OpenClaim.holds_of_wide 8 Try.f8 rfl rfl rfl rfl rfl rfl rfl ⟨rfl, rfl, rfl, rfl, rfl⟩ rfl rfl rfl rfl rfl (by kernel_rfl) Try.func8 (by kernel_rfl)
    (of_decide_eq_true (by kernel_rfl)) (by unfold Func.isWrapper; first | (rw [if_pos (by decide +kernel)]; kernel_rfl) | (rw [if_neg (by decide +kernel)]; exact ⟨rfl, rfl⟩))
    (fun os started H enc _ => lifted os started H enc)

theorem proved : Rows.FnExactStoreOkSaid := over
end Go.Proofs.Ytpfinamndhejkak.exStoreOk
