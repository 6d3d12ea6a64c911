/- FnExactRuleOk: at every rule impl.RuleOk answers as spec.RuleOk. For every rule, without a condition. -/
import Derived.Test.YtndecefcnalgdaiArgRule
namespace Go.Proofs.Ytndecefcnalgdai.exRuleOk
open Go.ChangeShapes Go.WideShapes Go.ChangeAt Go.RowKit
set_option linter.unusedVariables false

set_option maxRecDepth 100000 in
theorem walk (W P L M : Int) (w : World) :
    Calls Try.prog 5 #[ruleV W P L M] w fun e w' => e = .returned (.bool true) ∧ Below w.heap.size w w' := by
  have hB := (Below.refl w.heap.size w).alloc (Nat.le_refl _) (.cells #[.int .i64 W, .int .i64 P, .int .i64 L, .int .i64 M] 30)
  have hbx := heap_alloc_new w (.cells #[.int .i64 W, .int .i64 P, .int .i64 L, .int .i64 M] 30)
  have hne : ∀ b : Bool, (b != b) = false := by decide
  have hr := hne (ruleB W P L M)
  go_enter Try.func5, Try.ntmps5
  go_wp2_with fail
  refine (toRule_any _ _ _ _ _).mono ?_
  rintro e w1 ⟨rfl, hb1⟩
  have hB1 := hB.trans (hb1.mono (by simp))
  have hbx1 := (hb1.block w.heap.size (by simp)).trans hbx
  go_wp2_with fail
  refine (specRuleOk_any _ _ _ _ _).mono ?_
  rintro e w2 ⟨rfl, hb2⟩
  have hB2 := hB1.trans (hb2.mono hB1.size)
  have hlt : w.heap.size < w1.heap.size := by have := hb1.size; simp at this; omega
  have hbx2 := (hb2.block w.heap.size hlt).trans hbx1
  obtain ⟨d0, d1, d2, d3⟩ := rule_cells rfl hbx2
  generalize hg : ruleB W P L M = b at hr
  clear hB hb1 hB1 hb2 hbx hbx1 hbx2
  go_wp2_with fail
  refine (toRule_any _ _ _ _ _).mono ?_
  rintro e w3 ⟨rfl, hb3⟩
  have hB3 := hB2.trans (hb3.mono hB2.size)
  go_wp2_with fail
  refine (implRuleOk_any _ _ _ _ _).mono ?_
  rintro e w4 ⟨rfl, hb4⟩
  rw [hg]
  have hB4 := hB3.trans (hb4.mono hB3.size)
  clear hB2 hb3 hB3 hb4 d0 d1 d2 d3 hg
  go_wp2
  go_ret
  exact ⟨rfl, hB4⟩

set_option maxRecDepth 100000 in
theorem lifted (os : Os) (started : os.Started) (H : Type) (enc : TypeId × Value → H) :
    ReturnsInHanded {} Try.checked os 5 .any (Rows.fnExactRuleOkSpec.pre6 enc Try.prog Try.f5 Rows.fnExactRuleOkRow.domain false) (Rows.fnExactRuleOkSpec.post enc Try.prog Try.f5 false true false false) := by
  refine returnsInHanded_of_change (C := Try.checked) own started (by kernel_rfl) Try.func5
    (ChangeSpec.witness6 (enc := enc) (C := Try.checked) false ⟨#[], #[ruleV 0 0 0 0], []⟩ 8 (by kernel_rfl) (by kernel_rfl) (by kernel_rfl) (by kernel_rfl)) ?_
  intro W base args ds gs before hval0 hW hcnd _
  have hval : ∀ (j : Nat) t v, Try.f5.params[j]? = some t → args[j]? = some v → Value.okWide Try.prog W .any base t v := hval0
  have hW' := hW
  obtain ⟨p, q, hA0, hV, rfl, hfz, hnd⟩ := hW
  have hA : DataW.TrodAll enc Try.prog W 0 (fun _ => true) true Try.f5.params.toList args.toList ds p := hA0
  rw [Try.params5] at hA hval
  obtain ⟨v0, vs0, d0, ds0, p0, q0, hargs0, rfl, rfl, h0, r0⟩ := trodAll_cons hA
  obtain ⟨rfl, rfl, rfl⟩ := trodAll_nil r0
  obtain rfl : args = #[v0] := by cases args; simp_all
  obtain ⟨rfl, rfl⟩ := trodVars_none hV
  obtain ⟨x0, y0, z0, u0, rfl, rfl, rfl, wx0, wy0, wz0, wu0⟩ := open_rule (hval 0 30 v0 rfl rfl) h0
  clear hA0 hval0
  refine (walk x0 y0 z0 u0 W ).mono fun e W' ⟨he, bel⟩ => ?_
  subst he
  exact ⟨_, rfl, _, _, _, [], _, [], hW', trodAll_mk1 (shut_bool Try.underlying4 _), (trodAll_cons_mk (shut_rule wx0 wy0 wz0 wu0) trodAll_mk0), rfl, bel.frame _, fun h => by cases h⟩

theorem over : Rows.fnExactRuleOkRow.holds Try.pinned (OpenSpec.ofChange Rows.fnExactRuleOkSpec) :=
  OpenClaim.holds_of_wide 5 Try.f5 rfl rfl rfl rfl rfl rfl rfl ⟨rfl, rfl, rfl, rfl, rfl⟩ rfl rfl rfl rfl rfl (by kernel_rfl) Try.func5 (by kernel_rfl)
    (of_decide_eq_true (by kernel_rfl)) (by unfold Func.isWrapper; first | (rw [if_pos (by decide +kernel)]; kernel_rfl) | (rw [if_neg (by decide +kernel)]; exact ⟨rfl, rfl⟩))
    (fun os started H enc _ => lifted os started H enc)

theorem proved : Rows.FnExactRuleOkSaid := over
end Go.Proofs.Ytndecefcnalgdai.exRuleOk
