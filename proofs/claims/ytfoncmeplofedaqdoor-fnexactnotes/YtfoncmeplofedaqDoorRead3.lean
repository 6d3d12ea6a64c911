/- CONTRACT: impl.ReadNumber. -/
import Derived.Test.YtfoncmeplofedaqDoorRead2
namespace Go.Proofs.YtfoncmeplofedaqDoor
open Go.RowKit

theorem win_all (s : ByteArray) (h : s.size ≤ 6) : win s 0 = s := by
  have e : min (0 + 6) s.size = s.size := by omega
  unfold win
  rw [e]
  exact ByteArray.extract_zero_size

theorem rdAt_asB (zs : List Int) (k : Nat) (hz : Bytes zs) (hk : (zs.take k).length ≤ 6) (he : zs.take k = zs.take 6) : rdAt (asB (zs.take k)) 0 = rd zs := by
  unfold rdAt rd
  rw [win_all _ (by rw [asB_size]; exact hk), asB_byts _ (bytes_take hz k), he]

/-- what is left behind the call of number -/
theorem read_end {zs : List Int} {t : ByteArray} {w w1 w' : World} {e : Ending} (hr : rdAt t 0 = rd zs) (hb : Below w.heap.size w w1) (hn : NumEnd w.heap.size t 0 w1 e w') (hs : w1.heap.size = w.heap.size + 1) :
    (rd zs = none ∧ e = .returned (.tuple #[.int .i64 0, .bool false]) ∧ Below w.heap.size w w') ∨
    (∃ m k, rd zs = some (m, k) ∧ e = .returned (.tuple #[.int .i64 (m : Int), .bool true]) ∧ w'.cell? ⟨w.heap.size, 1, none⟩ = some (.int .i64 (k : Int)) ∧ Below w.heap.size w w') := by
  unfold NumEnd at hn
  rw [hr] at hn
  split at hn
  · next h => exact .inl ⟨h, hn.1, hb.trans (hn.2.mono (by omega))⟩
  · next m k h =>
    refine .inr ⟨m, k, h, hn.1, ?_, hb.grown hn.2.2 (by omega) (fun k hk => by cases hk; exact Nat.le_refl _)⟩
    have h := cur_cell1 hn.2.1
    rwa [Nat.zero_add] at h

end Go.Proofs.YtfoncmeplofedaqDoor
