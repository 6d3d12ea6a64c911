/- CONTRACT: the program's isRound. -/
import Derived.Test.YtfoncmeplofedaqBasis
namespace Go.Proofs.Ytfoncmeplofedaq
open Go.RowKit
def isRoundB (x : Int) : Bool := decide (0 ≤ x ∧ x ≤ 100000)
theorem isRound_any (x : Int) (w : World) : Calls Try.prog 42 #[.int .i64 x] w fun e w' => e = .returned (.bool (isRoundB x)) ∧ w' = w := by
  by_cases h0 : 0 ≤ x
  · by_cases h1 : x ≤ 100000
    · have e : isRoundB x = true := decide_eq_true ⟨h0, h1⟩
      rw [e]
      clear e
      go_enter Try.func42, Try.ntmps42
      go_wp2
      go_ret
      exact ⟨rfl, rfl⟩
    · have e : isRoundB x = false := decide_eq_false (fun h => h1 h.2)
      rw [e]
      clear e
      go_enter Try.func42, Try.ntmps42
      go_wp2
      go_ret
      exact ⟨rfl, rfl⟩
  · have e : isRoundB x = false := decide_eq_false (fun h => h0 h.1)
    rw [e]
    clear e
    go_enter Try.func42, Try.ntmps42
    go_wp2
    go_ret
    exact ⟨rfl, rfl⟩
end Go.Proofs.Ytfoncmeplofedaq
