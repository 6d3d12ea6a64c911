/- CONTRACT: spec.ReadNumbers. -/
import Derived.Test.YtcdfikfkmcpnoafItems
namespace Go.Proofs.Ytcdfikfkmcpnoaf
open Go.RowKit

/-- what is told: the list and whether there is one -/
def NumsEnd (s : ByteArray) (w : World) (e : Ending) (w' : World) : Prop :=
  ∃ v, e = .returned (.tuple #[v, .bool (readNums (byts s)).isSome]) ∧ w'.ownsRow w.heap.size 2 1 v ((readNums (byts s)).getD []).length (cellsInt64S ((readNums (byts s)).getD [])) ∧ Below w.heap.size w w'

theorem numsEnd_none {s : ByteArray} {w w' : World} {v : Value} (h : readNums (byts s) = none) (ho : w'.ownsRow w.heap.size 2 1 v 0 []) (hb : Below w.heap.size w w') : NumsEnd s w (.returned (.tuple #[v, .bool false])) w' := by
  refine ⟨v, ?_, ?_, hb⟩
  · rw [h]; rfl
  · rw [h]; exact ho
theorem numsEnd_some {s : ByteArray} {w w' : World} {v : Value} {l : List Int} (h : readNums (byts s) = some l) (ho : w'.ownsRow w.heap.size 2 1 v l.length (cellsInt64S l)) (hb : Below w.heap.size w w') : NumsEnd s w (.returned (.tuple #[v, .bool true])) w' := by
  refine ⟨v, ?_, ?_, hb⟩
  · rw [h]; rfl
  · rw [h]; exact ho

end Go.Proofs.Ytcdfikfkmcpnoaf
