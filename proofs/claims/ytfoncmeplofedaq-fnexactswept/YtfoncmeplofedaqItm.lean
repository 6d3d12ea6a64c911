/- ROWS OF ITEMS (five cells each: a digest, a text, two numbers, a truth). It speaks of no function of the program. -/
import Derived.Test.YtfoncmeplofedaqRowg
import Derived.Test.YtfoncmeplofedaqBlobs
import Derived.Test.YtfoncmeplofedaqBltg
namespace Go.Proofs.Ytfoncmeplofedaq
open Go.RowKit
set_option linter.unusedVariables false
/-- digest, text, stamp, kept, sure -/
abbrev It := Int × ByteArray × Int × Int × Bool
abbrev it0 : It := (0, ByteArray.empty, 0, 0, false)
def itf (p : It) : List Value := [.int .i64 p.1, .string p.2.1, .int .i64 p.2.2.1, .int .i64 p.2.2.2.1, .bool p.2.2.2.2]
theorem itW : Wid itf 5 := ⟨by decide, fun x => rfl, fun x u hu => by
  simp only [itf, List.mem_cons, List.mem_nil_iff, or_false] at hu
  rcases hu with rfl | rfl | rfl | rfl | rfl <;> rfl⟩
theorem getD_it {l : List It} {j : Nat} (h : j < l.length) : l.getD j it0 = l[j] := by simp [List.getD, h]
/-- the five cells of an item -/
theorem it_cells {b off : Nat} {l : List It} {w : World} (h : CellsG itf 5 b off l w) {j : Nat} (hj : j < l.length) : w.cell? ⟨b, off + j * 5, none⟩ = some (.int .i64 (l.getD j it0).1) ∧ w.cell? ⟨b, off + j * 5 + 1, none⟩ = some (.string (l.getD j it0).2.1) ∧ w.cell? ⟨b, off + j * 5 + 2, none⟩ = some (.int .i64 (l.getD j it0).2.2.1) ∧ w.cell? ⟨b, off + j * 5 + 3, none⟩ = some (.int .i64 (l.getD j it0).2.2.2.1) ∧ w.cell? ⟨b, off + j * 5 + 4, none⟩ = some (.bool (l.getD j it0).2.2.2.2) := by
  rw [getD_it hj]
  exact ⟨h j hj 0 _ rfl, h j hj 1 _ rfl, h j hj 2 _ rfl, h j hj 3 _ rfl, h j hj 4 _ rfl⟩
theorem it_cells0 {b : Nat} {l : List It} {w : World} (h : CellsG itf 5 b 0 l w) {j : Nat} (hj : j < l.length) : w.cell? ⟨b, j * 5, none⟩ = some (.int .i64 (l.getD j it0).1) ∧ w.cell? ⟨b, j * 5 + 1, none⟩ = some (.string (l.getD j it0).2.1) ∧ w.cell? ⟨b, j * 5 + 2, none⟩ = some (.int .i64 (l.getD j it0).2.2.1) ∧ w.cell? ⟨b, j * 5 + 3, none⟩ = some (.int .i64 (l.getD j it0).2.2.2.1) ∧ w.cell? ⟨b, j * 5 + 4, none⟩ = some (.bool (l.getD j it0).2.2.2.2) := by
  have h9 := it_cells h hj
  rw [Nat.zero_add] at h9
  exact h9
/-- one cell stored -/
theorem it_set1 (l : List It) (i : Nat) (h : i < l.length) (x : Int) : (rowC itf l).set (i * 5) (.int .i64 x) = rowC itf (l.set i (x, (l.getD i it0).2)) := by
  have e := rowC_set itW l i h 0 (.int .i64 x) (x, l[i].2) (by decide) rfl
  rw [getD_it h]; exact e
theorem it_set2 (l : List It) (i : Nat) (h : i < l.length) (x : ByteArray) : (rowC itf l).set (i * 5 + 1) (.string x) = rowC itf (l.set i ((l.getD i it0).1, x, (l.getD i it0).2.2)) := by
  have e := rowC_set itW l i h 1 (.string x) (l[i].1, x, l[i].2.2) (by decide) rfl
  rw [getD_it h]; exact e
theorem it_set3 (l : List It) (i : Nat) (h : i < l.length) (x : Int) : (rowC itf l).set (i * 5 + 2) (.int .i64 x) = rowC itf (l.set i ((l.getD i it0).1, (l.getD i it0).2.1, x, (l.getD i it0).2.2.2)) := by
  have e := rowC_set itW l i h 2 (.int .i64 x) (l[i].1, l[i].2.1, x, l[i].2.2.2) (by decide) rfl
  rw [getD_it h]; exact e
theorem it_set4 (l : List It) (i : Nat) (h : i < l.length) (x : Int) : (rowC itf l).set (i * 5 + 3) (.int .i64 x) = rowC itf (l.set i ((l.getD i it0).1, (l.getD i it0).2.1, (l.getD i it0).2.2.1, x, (l.getD i it0).2.2.2.2)) := by
  have e := rowC_set itW l i h 3 (.int .i64 x) (l[i].1, l[i].2.1, l[i].2.2.1, x, l[i].2.2.2.2) (by decide) rfl
  rw [getD_it h]; exact e
theorem it_set5 (l : List It) (i : Nat) (h : i < l.length) (x : Bool) : (rowC itf l).set (i * 5 + 4) (.bool x) = rowC itf (l.set i ((l.getD i it0).1, (l.getD i it0).2.1, (l.getD i it0).2.2.1, (l.getD i it0).2.2.2.1, x)) := by
  have e := rowC_set itW l i h 4 (.bool x) (l[i].1, l[i].2.1, l[i].2.2.1, l[i].2.2.2.1, x) (by decide) rfl
  rw [getD_it h]; exact e
theorem it_set (l : List It) (i : Nat) (p : It) (h : i < l.length) : (((((rowC itf l).set (i * 5) (.int .i64 p.1)).set (i * 5 + 1) (.string p.2.1)).set (i * 5 + 2) (.int .i64 p.2.2.1)).set (i * 5 + 3) (.int .i64 p.2.2.2.1)).set (i * 5 + 4) (.bool p.2.2.2.2) = rowC itf (l.set i p) := by
  rw [it_set1 _ _ h, it_set2 _ _ (by simpa using h), it_set3 _ _ (by simpa using h), it_set4 _ _ (by simpa using h), it_set5 _ _ (by simpa using h)]
  simp only [List.set_set, List.length_set, h, getD_it, List.getElem_set_self]
theorem copied_it {l : List It} {n k : Nat} (h : k < l.length) (hn : k < n) (z : It) : (l.take k ++ List.replicate (n - k) z).set k (l.getD k it0) = l.take (k + 1) ++ List.replicate (n - (k + 1)) z := by
  have e1 : n - k = (n - (k + 1)) + 1 := by omega
  have e2 : (l.take k).length = k := by rw [List.length_take]; omega
  rw [e1, List.replicate_succ, List.set_append_right _ _ (by omega), e2, Nat.sub_self, List.set_cons_zero, List.take_succ_eq_append_getElem h, List.append_assoc]
  simp [List.getD, h]
/-- the texts, the blobs of a row of items -/
abbrev itB (p : It) : Bl := (p.1, p.2.1)
abbrev itBs (l : List It) : List Bl := l.map itB
abbrev itTx (l : List It) : List ByteArray := l.map fun p => p.2.1
theorem itTx_blobs (l : List It) : (itBs l).map Prod.snd = itTx l := by simp [itBs, itTx]
theorem itTx_get {l : List It} {k : Nat} (h : k < l.length) : (itTx l).getD k ByteArray.empty = (l.getD k it0).2.1 := by simp [itTx, List.getD, h]
theorem itBs_get {l : List It} {k : Nat} (h : k < l.length) : (itBs l).getD k bl0 = itB (l.getD k it0) := by simp [itBs, List.getD, h]
end Go.Proofs.Ytfoncmeplofedaq
