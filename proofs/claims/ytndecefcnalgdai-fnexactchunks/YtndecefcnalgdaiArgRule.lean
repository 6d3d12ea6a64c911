/- HOW A LAW's ARGUMENT IS READ THAT IS A RULE. It speaks of no function of the program. -/
import Derived.Test.YtndecefcnalgdaiRule
import Derived.Test.YtndecefcnalgdaiArgs
import Derived.Lib.SmallJoins
namespace Go.Proofs.Ytndecefcnalgdai
open Go.ChangeShapes Go.WideShapes Go.ChangeAt Go.RowKit Go.Joins

theorem Try.cellsRule : Try.prog.cellsOf 30 = 4 := by kernel_rfl

theorem open_rule {H : Type} {enc : TypeId × Value → H} {w : World} {base : Nat} {spare : Nat → Bool} {held : Bool} {r : Reach} {b0 : Nat} {v : Value} {d : DataW H} {p : List MemPlace}
    (hv : Value.okWide Try.prog w r b0 30 v) (h : DataW.Trod enc Try.prog w base spare held 30 v d p) :
    ∃ W P L M : Int, v = ruleV W P L M ∧ d = .agg [.lit (.int .i64 W), .lit (.int .i64 P), .lit (.int .i64 L), .lit (.int .i64 M)] ∧ p = [] ∧
      (Lit.int .i64 W).wf = true ∧ (Lit.int .i64 P).wf = true ∧ (Lit.int .i64 L).wf = true ∧ (Lit.int .i64 M).wf = true := by
  obtain ⟨c0, c1, c2, c3, y0, y1, y2, y3, m, rfl, rfl, rfl, hy0, hy1, hy2, hy3⟩ := open_agg4 Try.underlying30 (by kernel_rfl) Try.cellsRule hv h
  obtain ⟨a, e0, rfl, wa⟩ := DataW.trod_int Try.underlying2 hy0
  obtain ⟨b, e1, rfl, wb⟩ := DataW.trod_int Try.underlying2 hy1
  obtain ⟨c, e2, rfl, wc⟩ := DataW.trod_int Try.underlying2 hy2
  obtain ⟨d, e3, rfl, wd⟩ := DataW.trod_int Try.underlying2 hy3
  simp at e0 e1 e2 e3
  subst e0 e1 e2 e3
  exact ⟨a, b, c, d, rfl, rfl, rfl, wa, wb, wc, wd⟩

theorem shut_rule {H : Type} {enc : TypeId × Value → H} {w : World} {base : Nat} {spare : Nat → Bool} {held : Bool} {W P L M : Int}
    (hW : (Lit.int .i64 W).wf = true) (hP : (Lit.int .i64 P).wf = true) (hL : (Lit.int .i64 L).wf = true) (hM : (Lit.int .i64 M).wf = true) :
    DataW.Trod enc Try.prog w base spare held 30 (ruleV W P L M) (.agg [.lit (.int .i64 W), .lit (.int .i64 P), .lit (.int .i64 L), .lit (.int .i64 M)]) [] :=
  shut_agg4 (y0 := (.lit (.int .i64 W), [])) (y1 := (.lit (.int .i64 P), [])) (y2 := (.lit (.int .i64 L), [])) (y3 := (.lit (.int .i64 M), [])) Try.underlying30 (by kernel_rfl) Try.cellsRule
    ⟨1, by simp [DataW.trod, Try.underlying2, hW]⟩ ⟨1, by simp [DataW.trod, Try.underlying2, hP]⟩ ⟨1, by simp [DataW.trod, Try.underlying2, hL]⟩ ⟨1, by simp [DataW.trod, Try.underlying2, hM]⟩

end Go.Proofs.Ytndecefcnalgdai
