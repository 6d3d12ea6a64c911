/- CONTRACTS: the program's set of numbers: add, has; and the program's Get. -/
import Derived.Test.YtncmeocjiinmfapBlW
import Derived.Test.YtncmeocjiinmfapNumAdd
import Derived.Test.YtncmeocjiinmfapStoP
import Derived.Maps.OwnSet
namespace Go.Proofs.Ytncmeocjiinmfap
open Go.RowKit Go.Maps
set_option linter.unusedVariables false
end Go.Proofs.Ytncmeocjiinmfap
