/- CONTRACTS: slices.IndexFunc, slices.ContainsFunc of a row of impl.Item by (impl.Item).neverSure. (Written by numg.py.) -/
import Derived.Test.YtfoncmeplofedaqGreatDoorBunb
import Derived.Test.YtfoncmeplofedaqGreatDoorIdxL
namespace Go.Proofs.YtfoncmeplofedaqGreatDoor
open Go.RowKit
set_option linter.unusedVariables false
end Go.Proofs.YtfoncmeplofedaqGreatDoor
