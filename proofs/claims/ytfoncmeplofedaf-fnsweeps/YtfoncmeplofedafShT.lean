/- How great a shelf is. -/
import Derived.Test.YtfoncmeplofedafBun
import Derived.Test.YtfoncmeplofedafResC
namespace Go.Proofs.Ytfoncmeplofedaf
open Go.RowKit
set_option linter.unusedVariables false
theorem shelf_size : (Try.prog.info? 33).map (·.size) = some 2 := by kernel_rfl

end Go.Proofs.Ytfoncmeplofedaf
