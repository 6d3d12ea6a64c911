/- A note in a box of its own; rows of two texts, of two numbers. -/
import Derived.Test.YtfoncmeplofedaqGreatDoorBuna
import Derived.Lib.Hide
namespace Go.Proofs.YtfoncmeplofedaqGreatDoor
open Go.RowKit
set_option linter.unusedVariables false
theorem note_size : (Tryz.prog.info? 40).map (·.size) = some 3 := by kernel_rfl
/-- a box of a note, and what stores into it leave -/
abbrev ntC (p : Nt) : Array Value := #[.int .i64 p.1, .int .i64 p.2.1, .string p.2.2]
theorem box_cells {W : World} {g : Nat} {p : Nt} {t : TypeId} (h : W.heap[g]? = some (.cells (ntC p) t (0, 0))) : W.cell? ⟨g, 0, none⟩ = some (.int .i64 p.1) ∧ W.cell? ⟨g, 1, none⟩ = some (.int .i64 p.2.1) ∧ W.cell? ⟨g, 2, none⟩ = some (.string p.2.2) ∧ W.frozen? ⟨g, 0, none⟩ = false ∧ W.frozen? ⟨g, 1, none⟩ = false ∧ W.frozen? ⟨g, 2, none⟩ = false :=
  ⟨cell_of_row W _ 0 _ _ (0, 0) h, cell_of_row W _ 1 _ _ (0, 0) h, cell_of_row W _ 2 _ _ (0, 0) h, Lib.frozen_of_heap h 0, Lib.frozen_of_heap h 1, Lib.frozen_of_heap h 2⟩
theorem box_set {W : World} {g : Nat} {cs : Array Value} {t : TypeId} (h : W.heap[g]? = some (.cells cs t (0, 0))) (hc : cs.size = 3) (k0 k1 k2 : Value) :
    (((W.setCell ⟨g, 0, none⟩ k0).setCell ⟨g, 1, none⟩ k1).setCell ⟨g, 2, none⟩ k2).heap[g]? = some (.cells #[k0, k1, k2] t (0, 0)) := by
  match cs, hc with
  | ⟨[a, b, c]⟩, _ => simp [World.setCell, Array.getElem?_modify, h]
theorem box_below {B : Nat} {w W : World} {g : Nat} (h : Below B w W) (hg : B ≤ g) (k0 k1 k2 : Value) : Below B w (((W.setCell ⟨g, 0, none⟩ k0).setCell ⟨g, 1, none⟩ k1).setCell ⟨g, 2, none⟩ k2) :=
  ((h.setCell (p := ⟨g, 0, none⟩) hg k0).setCell (p := ⟨g, 1, none⟩) hg k1).setCell (p := ⟨g, 2, none⟩) hg k2
/-- two cells of a row of two -/
theorem two_strs {w : World} {B : Nat} {v : Value} {x t : ByteArray} (h : w.ownsRow B 9 1 v 2 (cellsS [x, t])) : ∃ g cap, v = .slice (some ⟨g, 0, none⟩) 2 cap ∧ g < w.heap.size ∧ ∀ W, Below w.heap.size w W → W.cell? ⟨g, 0, none⟩ = some (.string x) ∧ W.cell? ⟨g, 1, none⟩ = some (.string t) := by
  obtain ⟨g, cap, hv, _⟩ := owns_head h (by decide)
  refine ⟨g, cap, hv, ?_, fun W hW => ?_⟩
  · exact (h.lt g (by rw [hv]; rfl)).2
  · subst hv
    have h2 := owns_below h hW
    have c0 := h2.cellAt 0 (by decide)
    have c1 := h2.cellAt 1 (by decide)
    exact ⟨c0, c1⟩
theorem two_ints {w : World} {B : Nat} {v : Value} {x t : Int} (h : w.ownsRow B 2 1 v 2 (cellsInt64S [x, t])) : ∃ g cap, v = .slice (some ⟨g, 0, none⟩) 2 cap ∧ g < w.heap.size ∧ ∀ W, Below w.heap.size w W → W.cell? ⟨g, 0, none⟩ = some (.int .i64 x) ∧ W.cell? ⟨g, 1, none⟩ = some (.int .i64 t) := by
  obtain ⟨g, cap, hv, _⟩ := owns_head h (by decide)
  refine ⟨g, cap, hv, ?_, fun W hW => ?_⟩
  · exact (h.lt g (by rw [hv]; rfl)).2
  · subst hv
    have h2 := owns_below h hW
    have c0 := h2.cellAt 0 (by decide)
    have c1 := h2.cellAt 1 (by decide)
    exact ⟨c0, c1⟩
end Go.Proofs.YtfoncmeplofedaqGreatDoor
