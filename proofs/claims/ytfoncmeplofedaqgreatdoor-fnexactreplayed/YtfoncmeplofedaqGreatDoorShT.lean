/- How great a shelf is. -/
import Derived.Test.YtfoncmeplofedaqGreatDoorBuna
import Derived.Test.YtfoncmeplofedaqGreatDoorResC
namespace Go.Proofs.YtfoncmeplofedaqGreatDoor
open Go.RowKit
set_option linter.unusedVariables false
theorem shelf_size : (Tryz.prog.info? 26).map (·.size) = some 2 := by kernel_rfl

end Go.Proofs.YtfoncmeplofedaqGreatDoor
