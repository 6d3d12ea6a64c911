/- THE TABLE OF POWERS OF TEN (the library's, listed in the row): what the row's condition gives; it outlives calls. -/
import Derived.Test.YtidmaaglfckcbapDoorFmt
import Derived.LaidMore
namespace Go.Proofs.YtidmaaglfckcbapDoor
open Go.RowKit
abbrev TabP (w : World) : Prop := Lib.TabIs Tryd.prog w "internal/strconv.uint64pow10" .u64 Lib.pow10Tab
theorem tabG : Tryd.prog.globalNamed "internal/strconv.uint64pow10" = some 0 := by kernel_rfl
theorem tabGT : (Tryd.prog.globals[0]?).map (·.type) = some 81 := by kernel_rfl
theorem tabE1 : Tryd.prog.cellsOf 65 = 1 := by kernel_rfl
theorem tabE20 : Tryd.prog.cellsOf 81 = 20 := by kernel_rfl
/-- it stands third on the list -/
theorem tab_of {W : World} (h : laidMetH Tryd.prog [("math/bits.deBruijn32tab", Rows.laid_math_bits_deBruijn32tab), ("math/bits.deBruijn64tab", Rows.laid_math_bits_deBruijn64tab), ("internal/strconv.uint64pow10", Rows.laid_internal_strconv_uint64pow10)] W) : TabP W := by
  rw [MakeChecks.laidMetH_plain _ _ _ (by kernel_rfl)] at h
  obtain ⟨ps, ⟨g0, t0, cs0, f0, p0, q0, _, _, _, _, ⟨g1, t1, cs1, f1, p1, q1, _, _, _, _, ⟨g2, t2, cs2, f2, p2, q2, hg2, ht2, hv2, hd2, _⟩, _⟩, _⟩, _⟩ := h
  obtain rfl := Option.some.inj (tabG.symm.trans hg2)
  obtain rfl := Option.some.inj (tabGT.symm.trans ht2)
  have e : (Rows.laid_internal_strconv_uint64pow10 : DataW Unit) = Lib.tabData .u64 Lib.pow10Tab := by rfl
  rw [e] at hd2
  have hc := Lib.cells_of_tab Tryd.underlying81 Tryd.underlying65 tabE1 tabE20 hd2
  show World.var? _ _ _ = _
  rw [hv2, ← hc]
theorem tab_below {w w' : World} (h : TabP w) (hb : Below w.heap.size w w') : TabP w' := by
  have h1 : w.var? Tryd.prog "internal/strconv.uint64pow10" = some (Lib.pow10Tab.map fun z => Value.int .u64 z).toArray := h
  show World.var? _ _ _ = _
  unfold World.var? at h1 ⊢
  rw [tabG] at h1 ⊢
  simp only [Option.bind_some] at h1 ⊢
  have hlt : 0 < w.heap.size := by
    rcases Nat.lt_or_ge 0 w.heap.size with h' | h'
    · exact h'
    · rw [Array.getElem?_eq_none h'] at h1; cases h1
  rw [hb.block _ hlt]
  exact h1
end Go.Proofs.YtidmaaglfckcbapDoor
