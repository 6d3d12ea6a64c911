/- How great a shelf is. -/
import Derived.Test.YtfoncmeplofedaqIts
import Derived.Test.YtfoncmeplofedaqResC
namespace Go.Proofs.Ytfoncmeplofedaq
open Go.RowKit
set_option linter.unusedVariables false
theorem shelf_size : (Try.prog.info? 29).map (·.size) = some 2 := by kernel_rfl

end Go.Proofs.Ytfoncmeplofedaq
