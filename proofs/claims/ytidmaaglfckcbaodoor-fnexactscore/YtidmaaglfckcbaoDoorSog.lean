/- A ROW OF STRUCTS that the call has built, sorted by the library's SortFunc: what it holds is what the sort's world says; the row is owned behind it. It speaks of no function of the program. -/
import Derived.Test.YtidmaaglfckcbaoDoorRowg
import Derived.Shelf.GgSortFunc.InsertionK
namespace Go.Proofs.YtidmaaglfckcbaoDoor
open Go.RowKit
set_option linter.unusedVariables false
section
variable {α : Type} [Inhabited α] {f : α → List Value} {k : Nat}
theorem flat_rowC (hf : Wid f k) (l : List α) : (Sort.flatK f k l.toArray).toList = rowC f l := by
  apply List.ext_getElem?
  intro t
  by_cases ht : t < l.length * k
  · have hk := hf.pos
    have hd := Nat.div_add_mod t k
    have hm := Nat.mod_lt t hk
    have hi : t / k < l.length := Nat.div_lt_of_lt_mul (by rw [Nat.mul_comm]; exact ht)
    have e : t / k * k + t % k = t := by rw [Nat.mul_comm]; exact hd
    have h1 := rowC_get hf l (t / k) hi (t % k) hm
    rw [e] at h1
    rw [h1]
    have h2 := Sort.get_flatK f k l.toArray t (by simpa using ht)
    have hs : t < (Sort.flatK f k l.toArray).size := by simpa using ht
    rw [Array.getElem?_toList, Array.getElem?_eq_getElem hs, ← getElem!_pos (Sort.flatK f k l.toArray) t hs, h2]
    have e3 : l.toArray[t / k]! = l[t / k] := by simp [hi]
    have hlt : t % k < (f l[t / k]).length := by rw [hf.len]; exact hm
    rw [e3, getElem!_pos (f l[t / k]) (t % k) hlt, List.getElem?_eq_getElem hlt]
  · rw [List.getElem?_eq_none (by simp; omega), List.getElem?_eq_none (by rw [rowC_len hf]; omega)]
theorem holdsK_own (hf : Wid f k) {w : World} {g : Nat} {cur : Array Value} {e : TypeId} {l : List α} (hb : w.heap[g]? = some (.cells cur e (0, 0))) (ht : cur.toList.take (l.length * k) = rowC f l) : Sort.HoldsK f k w g 0 l.toArray := by
  intro j hj
  have hj' : j < l.length * k := by simpa using hj
  refine ⟨?_, by simp [World.frozen?, hb]⟩
  have h1 : (cur.toList.take (l.length * k))[j]? = (rowC f l)[j]? := by rw [ht]
  rw [List.getElem?_take_of_lt hj', ← flat_rowC hf, Array.getElem?_toList, Array.getElem?_toList, Array.getElem?_eq_getElem hj, ← getElem!_pos (Sort.flatK f k l.toArray) j hj] at h1
  simp only [World.cell?, hb, Nat.zero_add]
  simp only [Option.isSome_none, Bool.false_eq_true, if_false]
  rw [h1]
  rfl
theorem heap_sortedK {w : World} {g n : Nat} {os : Array Obj} {cur : Array Value} {e : TypeId} {fr : Nat × Nat} (d : Array α) (hb : w.heap[g]? = some (.cells cur e fr)) :
    (sortWorldK f k w g 0 n d os).heap[g]? = some (.cells (Sort.putCells id 0 (Sort.flatK f k d) cur) e fr) := by
  have hg : g < w.heap.size := (Array.getElem?_eq_some_iff.1 hb).1
  unfold sortWorldK Sort.putRowK
  rw [Sort.heap_grow_old _ _ (by simpa [Sort.ahead] using hg)]
  simp [Sort.putRow, Sort.mapBlock, Sort.ahead, Array.getElem?_modify, hb, Sort.onCells]
theorem grownBy_sortedK {w : World} {g n : Nat} {os : Array Obj} (d : Array α) : w.grownBy (sortWorldK f k w g 0 n d os) (some g) := by
  unfold sortWorldK Sort.putRowK
  refine ⟨rfl, rfl, rfl, by simp, fun j hj hne => ?_⟩
  rw [Sort.heap_grow_old _ _ (by simpa [Sort.ahead] using hj)]
  have : g ≠ j := fun e => hne (by rw [e])
  simp [Sort.putRow, Sort.mapBlock, Sort.ahead, Array.getElem?_modify, this]
theorem take_putCellsK (cur F : Array Value) (h : F.size ≤ cur.size) : (Sort.putCells id 0 F cur).toList.take F.size = F.toList := by
  apply List.ext_getElem?
  intro j
  by_cases hj : j < F.size
  · rw [List.getElem?_take_of_lt hj, Array.getElem?_toList]
    simp [Sort.putCells, hj, show j < cur.size by omega]
  · rw [List.getElem?_take_eq_none (by omega), List.getElem?_eq_none (by simp; omega)]
/-- behind the sort the same slice owns the sorted list -/
theorem ownG_sorted (hf : Wid f k) {w : World} {B g cap n : Nat} {e : TypeId} {os : Array Obj} {l m : List α} (hl : m.length = l.length) (h : OwnG f k e w B (.slice (some ⟨g, 0, none⟩) l.length cap) l) :
    OwnG f k e (sortWorldK f k w g 0 n m.toArray os) B (.slice (some ⟨g, 0, none⟩) l.length cap) m := by
  rcases h.2 with ⟨h0, _⟩ | ⟨g', cap', cur, hv, hB, hh, hn, hcm, hs, ht⟩
  · cases h0
  cases hv
  have hfs : (Sort.flatK f k m.toArray).size = m.length * k := by simp
  have hle : m.length * k ≤ cur.size := by rw [hs, hl]; exact Nat.mul_le_mul_right k hn
  refine ⟨by rw [rowC_len hf], .inr ⟨g, cap, _, by rw [hl], hB, heap_sortedK _ hh, by rw [hl]; exact hn, hcm, by simp [Sort.putCells, hs], ?_⟩⟩
  have h9 := take_putCellsK cur (Sort.flatK f k m.toArray) (by rw [hfs]; exact hle)
  rw [hfs, flat_rowC hf] at h9
  exact h9
theorem holdsK_ownG (hf : Wid f k) {w : World} {B g cap : Nat} {e : TypeId} {l : List α} (h : OwnG f k e w B (.slice (some ⟨g, 0, none⟩) l.length cap) l) : Sort.HoldsK f k w g 0 l.toArray := by
  rcases h.2 with ⟨h0, _⟩ | ⟨g', cap', cur, hv, hB, hh, hn, hcm, hs, ht⟩
  · cases h0
  cases hv
  exact holdsK_own hf hh ht
end
end Go.Proofs.YtidmaaglfckcbaoDoor
