/- CONTRACTS: the specification's RingOk, l11First, Owner, Owners, Without. -/
import Derived.Test.YtidmaaglfckcbapDoorRngM
import Derived.Test.YtidmaaglfckcbapDoorIn1
import Derived.Test.YtidmaaglfckcbapDoorQue
import Derived.Deep.QuietTactic
namespace Go.Proofs.YtidmaaglfckcbapDoor
open Go.RowKit
set_option linter.unusedVariables false
theorem drop_dt {l : List Dt} {i : Nat} (hi : i < l.length) : l.drop i = l.getD i dt0 :: l.drop (i + 1) := by
  rw [List.drop_eq_getElem_cons hi, getD_dt hi]
end Go.Proofs.YtidmaaglfckcbapDoor
