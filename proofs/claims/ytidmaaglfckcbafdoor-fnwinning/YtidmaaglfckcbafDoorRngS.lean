/- CONTRACTS: the specification's RingOk, l11First, Owner, Owners, Without. -/
import Derived.Test.YtidmaaglfckcbafDoorRngM
import Derived.Test.YtidmaaglfckcbafDoorIn1
import Derived.Test.YtidmaaglfckcbafDoorQue
import Derived.Deep.QuietTactic
namespace Go.Proofs.YtidmaaglfckcbafDoor
open Go.RowKit
set_option linter.unusedVariables false
theorem drop_dt {l : List Dt} {i : Nat} (hi : i < l.length) : l.drop i = l.getD i dt0 :: l.drop (i + 1) := by
  rw [List.drop_eq_getElem_cons hi, getD_dt hi]
theorem dtT : TyG Tryd.prog 27 48 2 16 := ⟨Tryd.underlying27, ⟨.agg #[.int .i64 0, .int .i64 0], rfl, Tryd.infoDt⟩, by decide⟩
theorem ownD_lit (w : World) : OwnD (w.alloc (.cells #[] 48)) w.heap.size (.slice (some ⟨w.heap.size, 0, none⟩) 0 0) [] := World.ownsRow_lit (base := w.heap.size) (e := 48) (size := 2) w #[] 0 (Nat.le_refl _) (Nat.zero_le _) rfl
end Go.Proofs.YtidmaaglfckcbafDoor
