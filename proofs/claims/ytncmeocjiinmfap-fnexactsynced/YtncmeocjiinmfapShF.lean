/- CONTRACTS: the specification's Fetched. -/
import Derived.Test.YtncmeocjiinmfapShS
import Derived.Test.YtncmeocjiinmfapStoP
namespace Go.Proofs.Ytncmeocjiinmfap
open Go.RowKit
set_option linter.unusedVariables false
end Go.Proofs.Ytncmeocjiinmfap
