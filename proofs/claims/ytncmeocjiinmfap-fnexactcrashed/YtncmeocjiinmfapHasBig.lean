/- CONTRACT: the specification's l1Has, of a long row. -/
import Derived.Test.YtncmeocjiinmfapStoS
import Derived.Deep.LoopGhost
namespace Go.Proofs.Ytncmeocjiinmfap
open Go.RowKit
set_option linter.unusedVariables false
end Go.Proofs.Ytncmeocjiinmfap
