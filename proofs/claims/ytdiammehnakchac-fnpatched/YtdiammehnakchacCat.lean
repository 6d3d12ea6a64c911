/- Texts one behind the other. -/
import Derived.Test.YtdiammehnakchacBasis
import Derived.Lib.AppendStr
namespace Go.Proofs.Ytdiammehnakchac
open Go.RowKit

/-- all bytes, one behind the other -/
def catL (xs : List ByteArray) : List Int := xs.flatMap byts
theorem catL_bytes (xs : List ByteArray) : Bytes (catL xs) := fun x hx => by
  obtain ⟨y, _, hy⟩ := List.mem_flatMap.1 hx
  exact byts_bytes _ x hy
theorem catL_take (xs : List ByteArray) (k : Nat) (hk : k < xs.length) : catL (xs.take (k + 1)) = catL (xs.take k) ++ byts (xs.getD k ByteArray.empty) := by
  rw [take_snoc xs ByteArray.empty k hk]
  simp [catL]
theorem catL_le (xs : List ByteArray) (k : Nat) : (catL (xs.take k)).length ≤ (catL xs).length := by
  have : catL xs = catL (xs.take k) ++ catL (xs.drop k) := by
    unfold catL
    rw [← List.flatMap_append, List.take_append_drop]
  rw [this, List.length_append]
  omega
theorem strCells_eq (s : ByteArray) : Lib.strCells s = cellsByteS (byts s) := by
  simp [Lib.strCells, byts, Function.comp_def]

end Go.Proofs.Ytdiammehnakchac
