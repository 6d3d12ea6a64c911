/- ROWS OF DOTS (two numbers each). THE LAWS' OWN READERS OVER THEM: szDotS, toDotS, eqDotS (of two that are alike), markDotS, heldDotS, likeDots. -/
import Derived.Test.YtidmaaglfckcbapDoorRowg
import Derived.Deep.RegionWith
import Derived.Deep.RegionHeld
import Derived.Deep.LoopGhost
namespace Go.Proofs.YtidmaaglfckcbapDoor
open Go.RowKit
set_option linter.unusedVariables false
abbrev Dt := Int × Int
abbrev dt0 : Dt := (0, 0)
def dtf (p : Dt) : List Value := [.int .i64 p.1, .int .i64 p.2]
theorem dtW : Wid dtf 2 := ⟨by decide, fun x => rfl, fun x u hu => by
  simp only [dtf, List.mem_cons, List.mem_nil_iff, or_false] at hu
  rcases hu with rfl | rfl <;> rfl⟩
theorem getD_dt {l : List Dt} {j : Nat} (h : j < l.length) : l.getD j dt0 = l[j] := by simp [List.getD, h]
/-- the two cells of a dot -/
theorem dt_cells {b off : Nat} {l : List Dt} {w : World} (h : CellsG dtf 2 b off l w) {j : Nat} (hj : j < l.length) : w.cell? ⟨b, off + j * 2, none⟩ = some (.int .i64 (l.getD j dt0).1) ∧ w.cell? ⟨b, off + j * 2 + 1, none⟩ = some (.int .i64 (l.getD j dt0).2) := by
  rw [getD_dt hj]
  exact ⟨h j hj 0 _ rfl, h j hj 1 _ rfl⟩
theorem dt_cells0 {b : Nat} {l : List Dt} {w : World} (h : CellsG dtf 2 b 0 l w) {j : Nat} (hj : j < l.length) : w.cell? ⟨b, j * 2, none⟩ = some (.int .i64 (l.getD j dt0).1) ∧ w.cell? ⟨b, j * 2 + 1, none⟩ = some (.int .i64 (l.getD j dt0).2) := by
  have h9 := dt_cells h hj
  rw [Nat.zero_add] at h9
  exact h9
theorem dt_set (l : List Dt) (i : Nat) (p : Dt) (h : i < l.length) : ((rowC dtf l).set (i * 2) (.int .i64 p.1)).set (i * 2 + 1) (.int .i64 p.2) = rowC dtf (l.set i p) := by
  have e1 := rowC_set dtW l i h 0 (.int .i64 p.1) (p.1, l[i].2) (by decide) rfl
  have e2 := rowC_set dtW (l.set i (p.1, l[i].2)) i (by rw [List.length_set]; exact h) 1 (.int .i64 p.2) p (by decide) (by rw [List.getElem_set_self]; rfl)
  rw [Nat.add_zero] at e1
  rw [e1, e2, List.set_set]
theorem ret_boolD {a b : Bool} (h : a = b) : Ending.returned (.bool a) = .returned (.bool b) := by rw [h]
abbrev dtZ : Dt := (0, 0)
theorem made_dots (n : Nat) : (madeCells (Value.agg #[.int .i64 0, .int .i64 0]).cells (n * 2)).toList = rowC dtf (List.replicate n dtZ) := by
  have e : ∀ m, (madeCells (Value.agg #[.int .i64 0, .int .i64 0]).cells m).toList = (List.range m).map fun i => (#[Value.int .i64 0, Value.int .i64 0])[i % 2]! := fun m => by simp [madeCells, Value.cells]
  rw [e]
  induction n with
  | zero => rfl
  | succ n ih =>
    rw [show (n + 1) * 2 = n * 2 + 1 + 1 by omega, List.range_succ, List.range_succ, List.map_append, List.map_append, ih, List.replicate_succ', rowC_append, List.append_assoc]
    congr 1
    simp only [List.map_cons, List.map_nil, show n * 2 % 2 = 0 by omega, show (n * 2 + 1) % 2 = 1 by omega]
    rfl
theorem copied_dt {l : List Dt} {n k : Nat} (h : k < l.length) (hn : k < n) (z : Dt) : (l.take k ++ List.replicate (n - k) z).set k (l.getD k dt0) = l.take (k + 1) ++ List.replicate (n - (k + 1)) z := by
  have e1 : n - k = (n - (k + 1)) + 1 := by omega
  have e2 : (l.take k).length = k := by rw [List.length_take]; omega
  rw [e1, List.replicate_succ, List.set_append_right _ _ (by omega), e2, Nat.sub_self, List.set_cons_zero, List.take_succ_eq_append_getElem h, List.append_assoc]
  simp [List.getD, h]
/-- what markDotS lays from m on -/
def marksDt (m n : Nat) : List Dt := (List.range n).map fun (j : Nat) => (((m + 2 * j : Nat) : Int), ((m + 2 * j + 1 : Nat) : Int))
theorem marksDt_len (m n : Nat) : (marksDt m n).length = n := by simp [marksDt]
theorem marksDt_succ (m k : Nat) : marksDt m (k + 1) = marksDt m k ++ [(((m + 2 * k : Nat) : Int), ((m + 2 * k + 1 : Nat) : Int))] := by simp [marksDt, List.range_succ]
theorem marksDt_get {m n j : Nat} (h : j < n) : (marksDt m n).getD j dt0 = (((m + 2 * j : Nat) : Int), ((m + 2 * j + 1 : Nat) : Int)) := by simp [marksDt, List.getD, h]
theorem marksDt_step (m k : Nat) (xs : List Dt) (h : k < xs.length) : (marksDt m k ++ xs.drop k).set k (((m + 2 * k : Nat) : Int), ((m + 2 * k + 1 : Nat) : Int)) = marksDt m (k + 1) ++ xs.drop (k + 1) := by
  rw [List.drop_eq_getElem_cons h, marksDt_succ, List.set_append_right _ _ (by rw [marksDt_len]; exact Nat.le_refl _), marksDt_len, Nat.sub_self, List.set_cons_zero, List.append_assoc]
  rfl

end Go.Proofs.YtidmaaglfckcbapDoor
