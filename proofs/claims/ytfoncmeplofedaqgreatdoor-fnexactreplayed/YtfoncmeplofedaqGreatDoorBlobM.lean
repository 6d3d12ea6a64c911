/- THE LAWS' OWN READERS OVER ROWS OF BLOBS: markBlobS, heldBlobS. -/
import Derived.Test.YtfoncmeplofedaqGreatDoorBuna
import Derived.Test.YtfoncmeplofedaqGreatDoorMarkT
namespace Go.Proofs.YtfoncmeplofedaqGreatDoor
open Go.RowKit
set_option linter.unusedVariables false
/-- what markBlobS lays from m on -/
def marksBl (m n : Nat) : List Bl := (List.range n).map fun (j : Nat) => (((m + 2 * j : Nat) : Int), mtxt (m + 2 * j + 1))
theorem marksBl_len (m n : Nat) : (marksBl m n).length = n := by simp [marksBl]
theorem marksBl_succ (m k : Nat) : marksBl m (k + 1) = marksBl m k ++ [(((m + 2 * k : Nat) : Int), mtxt (m + 2 * k + 1))] := by simp [marksBl, List.range_succ]
theorem marksBl_get {m n j : Nat} (h : j < n) : (marksBl m n).getD j bl0 = (((m + 2 * j : Nat) : Int), mtxt (m + 2 * j + 1)) := by simp [marksBl, List.getD, h]
theorem marksBl_step (m k : Nat) (xs : List Bl) (h : k < xs.length) : (marksBl m k ++ xs.drop k).set k (((m + 2 * k : Nat) : Int), mtxt (m + 2 * k + 1)) = marksBl m (k + 1) ++ xs.drop (k + 1) := by
  rw [List.drop_eq_getElem_cons h, marksBl_succ, List.set_append_right _ _ (by rw [marksBl_len]; exact Nat.le_refl _), marksBl_len, Nat.sub_self, List.set_cons_zero, List.append_assoc]
  rfl
end Go.Proofs.YtfoncmeplofedaqGreatDoor
