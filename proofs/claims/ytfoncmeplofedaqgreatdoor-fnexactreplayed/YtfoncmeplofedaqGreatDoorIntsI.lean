/- THE LAWS' OWN READERS AND MARKERS OVER A SLICE OF NUMBERS (Int64S): eqInt64S, heldInt64S read, markInt64S writes. -/
import Derived.Test.YtfoncmeplofedaqGreatDoorBuna
namespace Go.Proofs.YtfoncmeplofedaqGreatDoor
open Go.RowKit

/-- what markInt64S lays from m on -/
def marksInt64S (m n : Nat) : List Int := (List.range n).map fun (j : Nat) => ((m : Int) + (j : Int))
theorem marksInt64S_len (m n : Nat) : (marksInt64S m n).length = n := by simp [marksInt64S]
theorem marksInt64S_succ (m k : Nat) : marksInt64S m (k + 1) = marksInt64S m k ++ [((m : Int) + (k : Int))] := by simp [marksInt64S, List.range_succ]
theorem marksInt64S_get (m n j : Nat) (h : j < n) : (marksInt64S m n).getD j 0 = ((m : Int) + (j : Int)) := by simp [marksInt64S, List.getD, h]
theorem marksInt64S_step (m k : Nat) (xs : List Int) (h : k < xs.length) : ((cellsInt64S (marksInt64S m k ++ xs.drop k)).set k (.int .i64 (((m : Int) + (k : Int))))) = cellsInt64S (marksInt64S m (k + 1) ++ xs.drop (k + 1)) := by
  have hd : xs.drop k = xs[k] :: xs.drop (k + 1) := List.drop_eq_getElem_cons h
  rw [marksInt64S_succ, hd]
  have e : (cellsInt64S (marksInt64S m k)).length = k := by simp [marksInt64S_len]
  have e2 : cellsInt64S (marksInt64S m k ++ xs[k] :: xs.drop (k + 1)) = cellsInt64S (marksInt64S m k) ++ (Value.int .i64 xs[k] :: cellsInt64S (xs.drop (k + 1))) := by rw [cellsInt64S, List.map_append, List.map_cons]
  rw [e2, List.set_append_right _ _ (by omega), e, Nat.sub_self, List.set_cons_zero]
  simp

end Go.Proofs.YtfoncmeplofedaqGreatDoor
