/- ROWS OF NOTES (three cells each: two numbers, a text), their types' facts. -/
import Derived.Test.YtfoncmeplofedaqGreatDoorBuna
namespace Go.Proofs.YtfoncmeplofedaqGreatDoor
open Go.RowKit
set_option linter.unusedVariables false
def ntf (p : Nt) : List Value := [.int .i64 p.1, .int .i64 p.2.1, .string p.2.2]
theorem ntW : Wid ntf 3 := ⟨by decide, fun x => rfl, fun x u hu => by
  simp only [ntf, List.mem_cons, List.mem_nil_iff, or_false] at hu
  rcases hu with rfl | rfl | rfl <;> rfl⟩
theorem getD_nt {l : List Nt} {j : Nat} (h : j < l.length) : l.getD j nt0 = l[j] := by simp [List.getD, h]
/-- the three cells of a note -/
theorem nt_cells {b off : Nat} {l : List Nt} {w : World} (h : CellsG ntf 3 b off l w) {j : Nat} (hj : j < l.length) : w.cell? ⟨b, off + j * 3, none⟩ = some (.int .i64 (l.getD j nt0).1) ∧ w.cell? ⟨b, off + j * 3 + 1, none⟩ = some (.int .i64 (l.getD j nt0).2.1) ∧ w.cell? ⟨b, off + j * 3 + 2, none⟩ = some (.string (l.getD j nt0).2.2) := by
  rw [getD_nt hj]
  exact ⟨h j hj 0 _ rfl, h j hj 1 _ rfl, h j hj 2 _ rfl⟩
theorem nt_cells0 {b : Nat} {l : List Nt} {w : World} (h : CellsG ntf 3 b 0 l w) {j : Nat} (hj : j < l.length) : w.cell? ⟨b, j * 3, none⟩ = some (.int .i64 (l.getD j nt0).1) ∧ w.cell? ⟨b, j * 3 + 1, none⟩ = some (.int .i64 (l.getD j nt0).2.1) ∧ w.cell? ⟨b, j * 3 + 2, none⟩ = some (.string (l.getD j nt0).2.2) := by
  have h9 := nt_cells h hj
  rw [Nat.zero_add] at h9
  exact h9
/-- one cell stored -/
theorem nt_set1 (l : List Nt) (i : Nat) (h : i < l.length) (x : Int) : (rowC ntf l).set (i * 3) (.int .i64 x) = rowC ntf (l.set i (x, (l.getD i nt0).2)) := by
  have e := rowC_set ntW l i h 0 (.int .i64 x) (x, l[i].2) (by decide) rfl
  rw [getD_nt h]; exact e
theorem nt_set2 (l : List Nt) (i : Nat) (h : i < l.length) (x : Int) : (rowC ntf l).set (i * 3 + 1) (.int .i64 x) = rowC ntf (l.set i ((l.getD i nt0).1, x, (l.getD i nt0).2.2)) := by
  have e := rowC_set ntW l i h 1 (.int .i64 x) (l[i].1, x, l[i].2.2) (by decide) rfl
  rw [getD_nt h]; exact e
theorem nt_set3 (l : List Nt) (i : Nat) (h : i < l.length) (x : ByteArray) : (rowC ntf l).set (i * 3 + 2) (.string x) = rowC ntf (l.set i ((l.getD i nt0).1, (l.getD i nt0).2.1, x)) := by
  have e := rowC_set ntW l i h 2 (.string x) (l[i].1, l[i].2.1, x) (by decide) rfl
  rw [getD_nt h]; exact e
theorem nt_set (l : List Nt) (i : Nat) (p : Nt) (h : i < l.length) : (((rowC ntf l).set (i * 3) (.int .i64 p.1)).set (i * 3 + 1) (.int .i64 p.2.1)).set (i * 3 + 2) (.string p.2.2) = rowC ntf (l.set i p) := by
  rw [nt_set1 _ _ h, nt_set2 _ _ (by simpa using h), nt_set3 _ _ (by simpa using h)]
  simp only [List.set_set, List.length_set, h, getD_nt, List.getElem_set_self]
theorem copied_nt {l : List Nt} {n k : Nat} (h : k < l.length) (hn : k < n) (z : Nt) : (l.take k ++ List.replicate (n - k) z).set k (l.getD k nt0) = l.take (k + 1) ++ List.replicate (n - (k + 1)) z := by
  have e1 : n - k = (n - (k + 1)) + 1 := by omega
  have e2 : (l.take k).length = k := by rw [List.length_take]; omega
  rw [e1, List.replicate_succ, List.set_append_right _ _ (by omega), e2, Nat.sub_self, List.set_cons_zero, List.take_succ_eq_append_getElem h, List.append_assoc]
  simp [List.getD, h]
theorem Tryz.infoNt : (Tryz.prog.info? 40).map (fun i => (i.zero, i.size, i.bytes)) = some (some (.agg #[.int .i64 0, .int .i64 0, .string ⟨#[]⟩]), 3, 32) := by kernel_rfl
theorem ntY : TyZ Tryz.prog 29 40 ntf 3 32 nt0 (.agg #[.int .i64 0, .int .i64 0, .string ⟨#[]⟩]) := ⟨Tryz.underlying29, Tryz.infoNt, by decide, rfl⟩
abbrev OwnNt (w : World) (B : Nat) (v : Value) (l : List Nt) : Prop := OwnG ntf 3 40 w B v l
end Go.Proofs.YtfoncmeplofedaqGreatDoor
