/- CONTRACTS: the program's isNode, wrong (of a dot), the test that Without hands on. -/
import Derived.Test.YtjjaephhnlhnkaoDoorNDtA
import Derived.Test.YtjjaephhnlhnkaoDoorRngM
namespace Go.Proofs.YtjjaephhnlhnkaoDoor
open Go.RowKit
set_option linter.unusedVariables false
def isNodeB (x : Int) : Bool := decide (0 ≤ x ∧ x ≤ 15)
theorem isNode_any (x : Int) (w : World) : Calls Tryd.prog 22 #[.int .i64 x] w fun e w' => e = .returned (.bool (isNodeB x)) ∧ w' = w := by
  by_cases h0 : 0 ≤ x
  · by_cases h1 : x ≤ 15
    · have e : isNodeB x = true := decide_eq_true ⟨h0, h1⟩
      rw [e]
      clear e
      go_enter Tryd.func22, Tryd.ntmps22
      go_wp2
      go_ret
      exact ⟨rfl, rfl⟩
    · have e : isNodeB x = false := decide_eq_false (fun h => h1 h.2)
      rw [e]
      clear e
      go_enter Tryd.func22, Tryd.ntmps22
      go_wp2
      go_ret
      exact ⟨rfl, rfl⟩
  · have e : isNodeB x = false := decide_eq_false (fun h => h0 h.1)
    rw [e]
    clear e
    go_enter Tryd.func22, Tryd.ntmps22
    go_wp2
    go_ret
    exact ⟨rfl, rfl⟩
def wrongD (p : Dt) : Bool := decide (p.1 < 0) || decide (65536 ≤ p.1) || !isNodeB p.2
theorem wrongD_no {p : Dt} : wrongD p = false ↔ DotP p := by
  unfold wrongD isNodeB
  simp only [Bool.or_eq_false_iff, decide_eq_false_iff_not, Bool.not_eq_false', decide_eq_true_eq]
  constructor
  · rintro ⟨⟨h1, h2⟩, h3, h4⟩
    exact ⟨⟨by omega, by omega⟩, h3, h4⟩
  · rintro ⟨⟨h1, h2⟩, h3, h4⟩
    exact ⟨⟨by omega, by omega⟩, h3, h4⟩
end Go.Proofs.YtjjaephhnlhnkaoDoor
