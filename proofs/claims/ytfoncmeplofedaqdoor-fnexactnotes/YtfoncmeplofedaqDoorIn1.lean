/- CONTRACTS: the specification's l1In, l1Has. -/
import Derived.Test.YtfoncmeplofedaqDoorBasis
import Derived.Lib.Hide
namespace Go.Proofs.YtfoncmeplofedaqDoor
open Go.RowKit
set_option linter.unusedVariables false
theorem l1InB_any (a lo hi : Int) (w : World) : Calls Tryd.prog 40 #[.int .i64 a, .int .i64 lo, .int .i64 hi] w fun e w' => e = .returned (.bool (decide (lo ≤ a) && decide (a ≤ hi))) ∧ w' = w := by
  by_cases h : lo ≤ a
  · go_enter Tryd.func40, Tryd.ntmps40
    go_wp2
    go_ret
    exact ⟨by simp [h], rfl⟩
  · go_enter Tryd.func40, Tryd.ntmps40
    go_wp2
    go_ret
    exact ⟨by simp; omega, rfl⟩
end Go.Proofs.YtfoncmeplofedaqDoor
