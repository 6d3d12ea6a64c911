/- CONTRACTS: slices.IndexFunc, slices.ContainsFunc of a row of impl.Dot by (impl.Dot).wrong. (Written by numg.py.) -/
import Derived.Test.YtjjaephhnlhnkaoDoorRngA
import Derived.Test.YtjjaephhnlhnkaoDoorIdxL
namespace Go.Proofs.YtjjaephhnlhnkaoDoor
open Go.RowKit
set_option linter.unusedVariables false
end Go.Proofs.YtjjaephhnlhnkaoDoor
