/- FnExactDistinct: at every list impl.Distinct answers as spec.Distinct, and writes into no argument. For every one, without a condition. (Written by lawgen10.py.) -/
import Derived.Test.YtncmeocjiinmfanDistI
import Derived.Test.YtncmeocjiinmfanIntsI
import Derived.Test.YtncmeocjiinmfanArgs
namespace Go.Proofs.Ytncmeocjiinmfan.exDistinct
open Go.ChangeShapes Go.WideShapes Go.ChangeAt Go.RowKit
set_option linter.unusedVariables false

set_option maxHeartbeats 1000000 in
set_option maxRecDepth 100000 in
theorem walk (va : Value) (xs : List Int) (w : World) (ha : Rd w va (cellsInt64S xs)) (hza : ∀ n ∈ xs, (Lit.int .i64 n).wf = true) (hna : xs.length ≤ 9223372036854775807) :
    Calls Try.prog 7 #[va] w fun e w' => e = .returned (.bool true) ∧ Below w.heap.size w w' := by
  have hla : (cellsInt64S xs).length = xs.length := by simp
  have hw64 : ∀ n ∈ xs, -9223372036854775808 ≤ n ∧ n ≤ 9223372036854775807 := fun n hn => by
    have h := hza n hn
    simp [Lit.wf, IntKind.min, IntKind.max, IntKind.signed, IntKind.bits] at h
    omega
  clear hza
  by_cases hbig : 1048576 < (xs.length : Int)
  · obtain ⟨ao, cap, rfl, _, _⟩ := ha
    rw [hla]
    clear hw64
    go_enter Try.func7, Try.ntmps7
    go_wp2
    go_ret
    exact ⟨rfl, Below.refl _ _⟩
  have hl1 : xs.length ≤ 1048576 := by omega
  obtain ⟨ao, cap, hva, _, _⟩ := id ha
  rw [hla] at hva
  have hne : ∀ b : Int, (b != b) = false := fun b => by simp
  have hr0 := hne (distT xs)
  have HSP := fun va w ha => specDistinct_any va xs w ha
  have HIM := fun va w ha => implDistinct_any va xs w ha hw64
  generalize distT xs = z at hr0 HSP HIM
  clear hne hw64
  subst hva
  go_enter Try.func7, Try.ntmps7
  go_wp2_with fail
  refine (toInt64S_any _ xs _ ha hl1).mono ?_
  rintro e w1 ⟨v1, rfl, ho1, hb1⟩
  have hB1 := hb1
  have ha1 := rd_below ha hb1
  clear hb1 ha
  go_wp2_with fail
  refine (HSP v1 _ (rd_owns ho1)).mono ?_
  rintro e w2 ⟨rfl, hb2⟩
  have hB2 := hB1.trans (hb2.mono hB1.size)
  have ha2 := rd_below ha1 hb2
  clear ho1 hb2 hB1 ha1
  go_wp2_with fail
  refine (toInt64S_any _ xs _ ha2 hl1).mono ?_
  rintro e w4 ⟨v4, rfl, ho4, hb4⟩
  have hB4 := hB2.trans (hb4.mono hB2.size)
  have ha4 := rd_below ha2 hb4
  clear ha2 hb4 hB2
  go_wp2_with fail
  refine (HIM v4 _ (rd_owns ho4)).mono ?_
  rintro e w6 ⟨rfl, hb6⟩
  have hB6 := hB4.trans (hb6.mono hB4.size)
  have ha6 := rd_below ha4 hb6
  have ho6 := owns_below ho4 hb6
  clear HSP HIM hb6 hB4 ha4 ho4
  go_wp2_with fail
  refine (toInt64S_any _ xs _ ha6 hl1).mono ?_
  rintro e w7 ⟨v7, rfl, ho7, hb7⟩
  have hB7 := hB6.trans (hb7.mono hB6.size)
  have ho67 := owns_below ho6 hb7
  clear ha6 hb7 hB6 ho6
  go_wp2_with fail
  refine (eqInt64S_any v4 v7 _ _ _ (rd_owns ho67) (rd_owns ho7) (by omega) (by omega)).mono ?_
  rintro e w8 ⟨rfl, hb8⟩
  rw [decide_eq_true rfl]
  have hB8 := hB7.trans (hb8.mono hB7.size)
  clear hb8 hB7 ho67 ho7
  go_wp2
  go_ret
  exact ⟨rfl, hB8⟩

set_option maxRecDepth 100000 in
theorem lifted (os : Os) (started : os.Started) (H : Type) (enc : TypeId × Value → H) :
    ReturnsInHanded {} Try.checked os 7 .any (Rows.fnExactDistinctSpec.pre6 enc Try.prog Try.f7 Rows.fnExactDistinctRow.domain false) (Rows.fnExactDistinctSpec.post enc Try.prog Try.f7 false true false false) := by
  refine returnsInHanded_of_change (C := Try.checked) own started (by kernel_rfl) Try.func7
    (ChangeSpec.witness6 (enc := enc) (C := Try.checked) false ⟨#[], #[.slice none 0 0], []⟩ 8 (by kernel_rfl) (by kernel_rfl) (by kernel_rfl) (by kernel_rfl)) ?_
  intro W base args ds gs before hval0 hW hcnd _
  have hval : ∀ (j : Nat) t v, Try.f7.params[j]? = some t → args[j]? = some v → Value.okWide Try.prog W .any base t v := hval0
  have hW' := hW
  obtain ⟨p, q, hA0, hV, rfl, hfz, hnd⟩ := hW
  have hA : DataW.TrodAll enc Try.prog W 0 (fun _ => true) true Try.f7.params.toList args.toList ds p := hA0
  rw [Try.params7] at hA hval
  obtain ⟨v0, vs0, d0, ds0, p0, q0, hargs0, rfl, rfl, h0, r0⟩ := trodAll_cons hA
  obtain ⟨rfl, rfl, rfl⟩ := trodAll_nil r0
  obtain rfl : args = #[v0] := by cases args; simp_all
  obtain ⟨rfl, rfl⟩ := trodVars_none hV
  obtain ⟨a0, len0, cap0, rfl⟩ := okWide_slice Try.underlying32 (hval 0 32 v0 rfl rfl)
  have k0 := h0
  have lt0 : ∀ x ∈ p0, x.block < W.heap.size := by obtain ⟨m, hm⟩ := k0; exact DataW.trod_lt m _ _ _ hm
  obtain ⟨zs0, hr0, hs0⟩ : ∃ zs : List Int, Rd W (.slice a0 len0 cap0) (zs.map (Value.int .i64)) ∧ ((∀ n ∈ zs, (Lit.int .i64 n).wf = true) ∧ zs.length ≤ 9223372036854775807) := by
    obtain ⟨fuel, hf⟩ := h0
    rcases open_ints Try.underlying32 Try.underlying2 (by kernel_rfl) hf with ⟨hcs, _⟩ | ⟨x, l, c, zs, hcs, _, hl, hm, hz, _, hcell, hwz⟩
    · simp [Value.cells] at hcs
      obtain ⟨rfl, rfl, rfl⟩ := hcs
      exact ⟨[], ⟨none, 0, rfl, Nat.le_refl _, fun h => absurd rfl h⟩, (fun x hx => absurd hx List.not_mem_nil), Nat.zero_le _⟩
    · simp [Value.cells] at hcs
      obtain ⟨rfl, rfl, rfl⟩ := hcs
      exact arg_ints .i64 hl hm (by simpa using hz) hcell hwz
  clear hA0 hval0
  refine (walk _ zs0 W hr0 hs0.1 hs0.2).mono fun e W' ⟨he, bel⟩ => ?_
  subst he
  exact ⟨_, rfl, _, _, _, [], _, [], hW', trodAll_mk1 (shut_bool Try.underlying4 _), (trodAll_cons_mk (Below.trod laidOut (by kernel_rfl) (of_decide_eq_true (by kernel_rfl)) k0 bel lt0) trodAll_mk0), rfl, bel.frame _, fun h => by cases h⟩

theorem over : Rows.fnExactDistinctRow.holds Try.pinned (OpenSpec.ofChange Rows.fnExactDistinctSpec) :=
  OpenClaim.holds_of_wide 7 Try.f7 rfl rfl rfl rfl rfl rfl rfl ⟨rfl, rfl, rfl, rfl, rfl⟩ rfl rfl rfl rfl rfl (by kernel_rfl) Try.func7 (by kernel_rfl)
    (of_decide_eq_true (by kernel_rfl)) (by unfold Func.isWrapper; first | (rw [if_pos (by decide +kernel)]; kernel_rfl) | (rw [if_neg (by decide +kernel)]; exact ⟨rfl, rfl⟩))
    (fun os started H enc _ => lifted os started H enc)

theorem proved : Rows.FnExactDistinctSaid := over
end Go.Proofs.Ytncmeocjiinmfan.exDistinct
