/- CONTRACT: impl.ReadNumbers, by impl.readList over the cursor's method value. -/
import Derived.Test.YtcdfikfkmcpnoafReadNums
namespace Go.Proofs.Ytcdfikfkmcpnoaf
open Go.RowKit

/-- what readList leaves -/
def ListEnd (cb : Nat) (s : ByteArray) (w : World) (e : Ending) (w' : World) : Prop :=
  ∃ v, e = .returned (.tuple #[v, .bool (readNums (byts s)).isSome]) ∧ w'.ownsRow w.heap.size 2 1 v ((readNums (byts s)).getD []).length (cellsInt64S ((readNums (byts s)).getD [])) ∧ w.grownBy w' (some cb)
theorem listEnd_none {cb : Nat} {s : ByteArray} {w w' : World} (h : readNums (byts s) = none) (hb : w.grownBy w' (some cb)) : ListEnd cb s w (.returned (.tuple #[.slice none 0 0, .bool false])) w' := by
  refine ⟨.slice none 0 0, ?_, ?_, hb⟩
  · rw [h]; rfl
  · rw [h]; exact World.ownsRow_nil _ _ _ _
theorem listEnd_some {cb : Nat} {s : ByteArray} {w w' : World} {v : Value} {l : List Int} (h : readNums (byts s) = some l) (ho : w'.ownsRow w.heap.size 2 1 v l.length (cellsInt64S l)) (hb : w.grownBy w' (some cb)) : ListEnd cb s w (.returned (.tuple #[v, .bool true])) w' := by
  refine ⟨v, ?_, ?_, hb⟩
  · rw [h]; rfl
  · rw [h]; exact ho

end Go.Proofs.Ytcdfikfkmcpnoaf
