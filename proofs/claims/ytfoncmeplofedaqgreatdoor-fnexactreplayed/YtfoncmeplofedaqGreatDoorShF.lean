/- CONTRACTS: the specification's Fetched. -/
import Derived.Test.YtfoncmeplofedaqGreatDoorShS
import Derived.Test.YtfoncmeplofedaqGreatDoorStoP
namespace Go.Proofs.YtfoncmeplofedaqGreatDoor
open Go.RowKit
set_option linter.unusedVariables false
end Go.Proofs.YtfoncmeplofedaqGreatDoor
