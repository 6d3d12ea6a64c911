/- FnExactBranch: at every list of numbers impl.Branch answers as spec.Branch, and writes into no argument. For every list, without a condition. -/
import Derived.Test.YtcdfikfkmcpnoalTreeI
import Derived.Test.YtcdfikfkmcpnoalIntsI
import Derived.Test.YtcdfikfkmcpnoalArgs
namespace Go.Proofs.Ytcdfikfkmcpnoal.exBranch
open Go.ChangeShapes Go.WideShapes Go.ChangeAt Go.RowKit
set_option linter.unusedVariables false

theorem walk (va : Value) (xs : List Int) (w : World) (ha : Rd w va (cellsInt64S xs)) (_hw : ∀ n ∈ xs, (Lit.int .i64 n).wf = true) (_hn : xs.length ≤ 9223372036854775807) :
    Calls Try.prog 8 #[va] w fun e w' => e = .returned (.bool true) ∧ Below w.heap.size w w' := by
  clear _hw _hn
  obtain ⟨ao, cap, rfl, hcap, hx⟩ := ha
  have hla : (cellsInt64S xs).length = xs.length := by simp
  have ha : Rd w (.slice ao xs.length cap) (cellsInt64S xs) := ⟨ao, cap, by rw [hla], hcap, hx⟩
  rw [hla] at hcap ⊢
  clear hx hla
  by_cases hbig : 1048576 < (xs.length : Int)
  · go_enter Try.func8, Try.ntmps8
    go_wp2
    go_ret
    exact ⟨rfl, Below.refl _ _⟩
  · have hl : xs.length ≤ 1048576 := by omega
    have HSB := fun v W h => specBranch_any v xs W h (by omega)
    have HIB := fun v W h => implBranch_any v xs W h (by omega)
    generalize brT xs = t at HSB HIB
    go_enter Try.func8, Try.ntmps8
    go_wp2_with fail
    refine (toInt64S_any _ xs _ ha hl).mono ?_
    rintro e w1 ⟨v1, rfl, ho1, hb1⟩
    go_wp2_with fail
    refine (HSB v1 _ (rd_owns ho1)).mono ?_
    rintro e w2 ⟨rfl, hb2⟩
    have s1 := hb1.size
    have s2 := hb2.size
    have ha2 := rd_below' (rd_below ha hb1) hb2 (Nat.le_refl _)
    go_wp2_with fail
    refine (toInt64S_any _ xs _ ha2 hl).mono ?_
    rintro e w3 ⟨v3, rfl, ho3, hb3⟩
    have s3 := hb3.size
    go_wp2_with fail
    refine (HIB v3 _ (rd_owns ho3)).mono ?_
    rintro e w4 ⟨rfl, hb4⟩
    have s4 := hb4.size
    have ho4 := owns_below ho3 hb4
    have ha4 := rd_below (rd_below ha2 hb3) hb4
    go_wp2_with fail
    refine (toInt64S_any _ xs _ ha4 hl).mono ?_
    rintro e w5 ⟨v5, rfl, ho5, hb5⟩
    have s5 := hb5.size
    have ho45 := owns_below ho4 hb5
    go_wp2_with fail
    refine (eqInt64S_any v3 v5 xs xs _ (rd_owns ho45) (rd_owns ho5) (by omega) (by omega)).mono ?_
    rintro e w6 ⟨rfl, hb6⟩
    rw [decide_eq_true rfl]
    have hfin : Below w.heap.size w w6 := hb1.trans ((hb2.mono s1).trans ((hb3.mono (by omega)).trans ((hb4.mono (by omega)).trans ((hb5.mono (by omega)).trans (hb6.mono (by omega))))))
    clear ho1 ho3 ho4 ho5 ho45 ha2 ha4 hb1 hb2 hb3 hb4 hb5 hb6 HSB HIB
    go_wp2
    go_ret
    exact ⟨rfl, hfin⟩

set_option maxRecDepth 100000 in
theorem lifted (os : Os) (started : os.Started) (H : Type) (enc : TypeId × Value → H) :
    ReturnsInHanded {} Try.checked os 8 .any (Rows.fnExactBranchSpec.pre6 enc Try.prog Try.f8 Rows.fnExactBranchRow.domain false) (Rows.fnExactBranchSpec.post enc Try.prog Try.f8 false true false false) := by
  refine returnsInHanded_of_change (C := Try.checked) own started (by kernel_rfl) Try.func8
    (ChangeSpec.witness6 (enc := enc) (C := Try.checked) false ⟨#[], #[.slice none 0 0], []⟩ 8 (by kernel_rfl) (by kernel_rfl) (by kernel_rfl) (by kernel_rfl)) ?_
  intro W base args ds gs before hval0 hW hcnd _
  have hval : ∀ (j : Nat) t v, Try.f8.params[j]? = some t → args[j]? = some v → Value.okWide Try.prog W .any base t v := hval0
  have hW' := hW
  obtain ⟨p, q, hA0, hV, rfl, hfz, hnd⟩ := hW
  have hA : DataW.TrodAll enc Try.prog W 0 (fun _ => true) true Try.f8.params.toList args.toList ds p := hA0
  rw [Try.params8] at hA hval
  obtain ⟨v0, vs0, d0, ds0, p0, q0, hargs0, rfl, rfl, h0, r0⟩ := trodAll_cons hA
  obtain ⟨rfl, rfl, rfl⟩ := trodAll_nil r0
  obtain rfl : args = #[v0] := by cases args; simp_all
  obtain ⟨rfl, rfl⟩ := trodVars_none hV
  obtain ⟨a0, len0, cap0, rfl⟩ := okWide_slice Try.underlying34 (hval 0 34 v0 rfl rfl)
  have k0 := h0
  have lt0 : ∀ x ∈ p0, x.block < W.heap.size := by obtain ⟨m, hm⟩ := k0; exact DataW.trod_lt m _ _ _ hm
  obtain ⟨zs0, hr0, hs0⟩ : ∃ zs : List Int, Rd W (.slice a0 len0 cap0) (zs.map (Value.int .i64)) ∧ ((∀ n ∈ zs, (Lit.int .i64 n).wf = true) ∧ zs.length ≤ 9223372036854775807) := by
    obtain ⟨fuel, hf⟩ := h0
    rcases open_ints Try.underlying34 Try.underlying2 (by kernel_rfl) hf with ⟨hcs, _⟩ | ⟨x, l, c, zs, hcs, _, hl, hm, hz, _, hcell, hwz⟩
    · simp [Value.cells] at hcs
      obtain ⟨rfl, rfl, rfl⟩ := hcs
      exact ⟨[], ⟨none, 0, rfl, Nat.le_refl _, fun h => absurd rfl h⟩, (fun x hx => absurd hx List.not_mem_nil), Nat.zero_le _⟩
    · simp [Value.cells] at hcs
      obtain ⟨rfl, rfl, rfl⟩ := hcs
      exact arg_ints .i64 hl hm (by simpa using hz) hcell hwz
  clear hA0 hval0
  refine (walk _ zs0 W hr0 hs0.1 hs0.2).mono fun e W' ⟨he, bel⟩ => ?_
  subst he
  exact ⟨_, rfl, _, _, _, [], _, [], hW', trodAll_mk1 (shut_bool Try.underlying4 _), (trodAll_cons_mk (Below.trod laidOut (by kernel_rfl) (of_decide_eq_true (by kernel_rfl)) k0 bel lt0) trodAll_mk0), rfl, bel.frame _, fun h => by cases h⟩

theorem over : Rows.fnExactBranchRow.holds Try.pinned (OpenSpec.ofChange Rows.fnExactBranchSpec) :=
  OpenClaim.holds_of_wide 8 Try.f8 rfl rfl rfl rfl rfl rfl rfl ⟨rfl, rfl, rfl, rfl, rfl⟩ rfl rfl rfl rfl rfl (by kernel_rfl) Try.func8 (by kernel_rfl)
    (of_decide_eq_true (by kernel_rfl)) (by unfold Func.isWrapper; first | (rw [if_pos (by decide +kernel)]; kernel_rfl) | (rw [if_neg (by decide +kernel)]; exact ⟨rfl, rfl⟩))
    (fun os started H enc _ => lifted os started H enc)

theorem proved : Rows.FnExactBranchSaid := over
end Go.Proofs.Ytcdfikfkmcpnoal.exBranch
