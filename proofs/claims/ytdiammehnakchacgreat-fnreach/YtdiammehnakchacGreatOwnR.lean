/- CONTRACT: impl.ownText of any row that is owned, an empty one too. -/
import Derived.Test.YtdiammehnakchacGreatOwn
import Derived.Lib.AppendStr
import Derived.Laws.AppendOwnNone
import Derived.Lib.Hide
namespace Go.Proofs.YtdiammehnakchacGreat
open Go.RowKit
set_option linter.unusedVariables false
theorem slice_nil {w : World} {b : Nat} {e : TypeId} {v : Value} {xs : List Value} (h : w.ownsRow b e 1 v 0 xs) : v = .slice none 0 0 ∨ ∃ g cap, v = .slice (some ⟨g, 0, none⟩) 0 cap := by
  rcases h.2 with ⟨hv, h0⟩ | ⟨g, cap, cur, hv, _⟩
  · exact Or.inl hv
  · exact Or.inr ⟨g, cap, hv⟩

set_option maxHeartbeats 1000000 in
set_option maxRecDepth 100000 in
theorem ownText_none (w : World) :
    Calls Tryz.prog 59 #[.slice none 0 0] w fun e w' => e = .returned (.string (asB [])) ∧ Below w.heap.size w w' := by
  have hbk := heap_alloc_new w (.cells #[.pointer none, .slice none 0 0] 108)
  have hB := (Below.refl w.heap.size w).alloc (Nat.le_refl _) (.cells #[.pointer none, .slice none 0 0] 108)
  have hsz := World.size_alloc w (.cells #[.pointer none, .slice none 0 0] 108)
  have HW : Hid (∀ W : World, W.heap[w.heap.size]? = some (.cells #[.pointer none, .slice none 0 0] 108 (0, 0)) → Below w.heap.size w W → Calls Tryz.prog 79 #[.pointer (some ⟨w.heap.size, 0, none⟩), .slice none 0 0] W fun e w' => e = .returned (.tuple #[.int .i64 0, .nilIface]) ∧ w'.heap[w.heap.size]? = some (.cells #[.pointer (some ⟨w.heap.size, 0, none⟩), .slice none 0 0] 108 (0, 0)) ∧ Below w.heap.size w w') := fun W hbk hbW => by
    obtain ⟨i0, hi, hz0, hz1, hz2⟩ := info_parts Tryz.infoB
    go_enter Tryz.func79, Tryz.ntmps79
    go_wp2_with fail
    refine (copyCheck_fresh w.heap.size _ W hbk).mono ?_
    rintro e w1 ⟨rfl, hw1⟩
    have hb1k : w1.heap[w.heap.size]? = some (.cells #[.pointer (some ⟨w.heap.size, 0, none⟩), .slice none 0 0] 108 (0, 0)) := by rw [hw1]; simp [World.setCell, Array.getElem?_modify, hbk]
    have hb1 : Below w.heap.size w w1 := by rw [hw1]; exact hbW.setCell (p := ⟨w.heap.size, 0, none⟩) (Nat.le_refl _) _
    clear hw1
    have c1 : w1.cell? ⟨w.heap.size, 1, none⟩ = some (.slice none 0 0) := by rw [Lib.cell_of_heap hb1k]; rfl
    have f1 : w1.frozen? ⟨w.heap.size, 1, none⟩ = false := Lib.frozen_of_heap hb1k 1
    have HK := Lib.hid hb1k
    have HB1 := Lib.hid hb1
    clear hb1k hb1 hbk hbW
    go_wp2_with (at_builtin; refine wpList_append_own_none rfl _ _ 22 rfl w.heap.size 5 i0 1 Tryz.underlying22 hi _ _ _ rfl (World.ownsRow_nil w1 w.heap.size 5 1) rfl ?_)
    go_ret2
    refine ⟨rfl, ?_, HB1.out.setCell (p := ⟨w.heap.size, 1, none⟩) (Nat.le_refl _) _⟩
    have hb2 := HK.out
    simp [World.setCell, Array.getElem?_modify, hb2]
  go_enter Tryz.func59, Tryz.ntmps59
  go_wp2_with fail
  refine (HW.out _ hbk hB).mono ?_
  rintro e w1 ⟨rfl, hb1, hB1⟩
  clear HW hbk hB
  go_wp2_with fail
  refine (string_of w.heap.size w.heap.size _ (.slice none 0 0) [] w1 (fun x hx => by cases hx) hb1 (World.ownsRow_nil w1 w.heap.size 5 1) (fun _ => rfl)).mono ?_
  rintro e w2 ⟨rfl, hB3⟩
  have hB4 := hB1.trans hB3
  clear hb1 hB1 hB3
  go_wp2
  go_ret
  exact ⟨rfl, hB4⟩
theorem ownRow_any (B : Nat) (v : Value) (zs : List Int) (w : World) (hz : Bytes zs) (ho : w.ownsRow B 5 1 v zs.length (cellsByteS zs)) (hl : zs.length ≤ 4194304) :
    Calls Tryz.prog 59 #[v] w fun e w' => e = .returned (.string (asB zs)) ∧ Below w.heap.size w w' := by
  rcases ho.2 with ⟨rfl, h0⟩ | ⟨g, cap, cur, rfl, hbg, hg, _⟩
  · have e : zs = [] := List.eq_nil_of_length_eq_zero h0
    subst e
    exact ownText_none w
  · exact ownText_any ⟨g, 0, none⟩ zs.length cap zs w rfl hz (fun j u hj => ho.cells (g := g) rfl j u hj) (ho.lt g rfl).2 hl
end Go.Proofs.YtdiammehnakchacGreat
