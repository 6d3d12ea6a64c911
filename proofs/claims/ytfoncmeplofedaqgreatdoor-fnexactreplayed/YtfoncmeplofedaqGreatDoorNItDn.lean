/- CONTRACT: slices.DeleteFunc of a row of impl.Item by (impl.Item).neverSure, in its own room. (Written by numg.py.) -/
import Derived.Test.YtfoncmeplofedaqGreatDoorNItXn
namespace Go.Proofs.YtfoncmeplofedaqGreatDoor
open Go.RowKit
set_option linter.unusedVariables false
end Go.Proofs.YtfoncmeplofedaqGreatDoor
