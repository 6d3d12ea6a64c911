/- CONTRACT: the program's Notes, by readNotes and errors.As. -/
import Derived.Test.YtfoncmeplofedaqDoorRdNo
import Derived.Test.YtfoncmeplofedaqDoorErrA
import Derived.Deep.RegionWith
namespace Go.Proofs.YtfoncmeplofedaqDoor
open Go.RowKit
set_option linter.unusedVariables false
/-- the one package-level variable that errors.As reads -/
def ErrT (w : World) : Prop := w.cell? ⟨0, 0, none⟩ = some (.iface 85 (.agg #[.pointer (some ⟨2, 33, none⟩)]))
theorem errT_lt {w : World} (h : ErrT w) : 0 < w.heap.size := by
  rcases Nat.lt_or_ge 0 w.heap.size with h9 | h9
  · exact h9
  · unfold ErrT at h
    simp [World.cell?, Array.getElem?_eq_none h9] at h
theorem errT_below {w w' : World} (h : ErrT w) (hb : Below w.heap.size w w') : ErrT w' := (hb.cell (p := ⟨0, 0, none⟩) (errT_lt h)).trans h
set_option maxHeartbeats 4000000 in
set_option maxRecDepth 100000 in
theorem implNotes_any (d : ByteArray) (w : World) (hE : ErrT w) (hd : d.size ≤ 1048576) :
    Calls Tryd.prog 5 #[.string d] w fun e w' => ∃ v, e = .returned (.tuple #[v, .int .i64 ((notesT d).2 : Int)]) ∧ OwnNt w' w.heap.size v (notesT d).1 ∧ Below w.heap.size w w' := by
  obtain ⟨L, k, hR⟩ : ∃ L k, notesT d = (L, k) := ⟨_, _, rfl⟩
  have hrd : Calls Tryd.prog 10 #[.string d] w fun e w' => ∃ v y, e = .returned (.tuple #[v, y]) ∧ OwnNt w' w.heap.size v L ∧ Below w.heap.size w w' ∧ ((y = .nilIface ∧ k = d.size) ∨ y = .iface 37 (.agg #[.int .i64 (k : Int)])) := by
    have h := readNotes_any d w hd
    unfold NotesEnd at h
    rw [hR] at h
    exact h
  have HE := Lib.hid hE
  rw [hR]
  clear hE hR
  have HLE := Lib.hid hd
  go_enter Tryd.func5, Tryd.ntmps5
  go_wp2_with fail
  refine hrd.mono ?_
  rintro e w2 ⟨v, y, rfl, ho, hb, hy⟩
  obtain ⟨ao, cap, rfl⟩ := ownG_shape ho
  have HO := Lib.hid ho
  have HB := Lib.hid hb
  have hba : Below w.heap.size w (w2.alloc (.cells #[.int .i64 0] 37)) := hb.alloc hb.size _
  have HBA := Lib.hid hba
  have HEA := Lib.hid (errT_below HE.out hba)
  clear hrd ho hb hba
  rcases hy with ⟨rfl, hk⟩ | rfl
  · have hk2 : Hid ((k : Int) = (d.size : Int)) := by show _ = _; rw [hk]
    clear hk
    go_wp2_with fail
    refine (asNil_any _ _).mono ?_
    rintro e w3 ⟨rfl, rfl⟩
    go_wp2
    go_ret2
    exact ⟨.slice ao L.length cap, by rw [hk2.out]; rfl, HO.out.alloc _, HBA.out⟩
  · have has := asHit_any w2.heap.size (k : Int) (.int .i64 0) (w2.alloc (.cells #[.int .i64 0] 37)) HEA.out (heap_alloc_new w2 _)
    go_wp2_with fail
    refine has.mono ?_
    rintro e w3 ⟨rfl, hw3⟩
    have hh : OwnNt w3 w.heap.size (.slice ao L.length cap) L ∧ Below w.heap.size w w3 ∧ w3.cell? ⟨w2.heap.size, 0, none⟩ = some (.int .i64 (k : Int)) := by
      obtain ⟨Wc, hWc⟩ : ∃ Wc, Wc = (((((w2.alloc (.cells #[.int .i64 0] 37)).alloc (.cells #[.pointer (some ⟨w2.heap.size, 0, none⟩)] 39)).alloc (.cells #[.pointer (some ⟨2, 39, none⟩), .pointer (some ⟨(w2.alloc (.cells #[.int .i64 0] 37)).heap.size, 0, none⟩), .int .u64 150] 64)).alloc (.cells #[.pointer (some ⟨2, 39, none⟩), .pointer (some ⟨(w2.alloc (.cells #[.int .i64 0] 37)).heap.size, 0, none⟩), .int .u64 150] 64)).alloc (.cells #[.int .i64 (k : Int)] 37)) := ⟨_, rfl⟩
      have hbc : Below (w2.alloc (.cells #[.int .i64 0] 37)).heap.size (w2.alloc (.cells #[.int .i64 0] 37)) Wc := by
        rw [hWc]
        have a1 := (Below.refl (w2.alloc (.cells #[.int .i64 0] 37)).heap.size (w2.alloc (.cells #[.int .i64 0] 37))).alloc (Nat.le_refl _) (.cells #[.pointer (some ⟨w2.heap.size, 0, none⟩)] 39)
        have a2 := a1.alloc a1.size (.cells #[.pointer (some ⟨2, 39, none⟩), .pointer (some ⟨(w2.alloc (.cells #[.int .i64 0] 37)).heap.size, 0, none⟩), .int .u64 150] 64)
        have a3 := a2.alloc a2.size (.cells #[.pointer (some ⟨2, 39, none⟩), .pointer (some ⟨(w2.alloc (.cells #[.int .i64 0] 37)).heap.size, 0, none⟩), .int .u64 150] 64)
        exact a3.alloc a3.size _
      rw [← hWc] at hw3
      have hbx : Wc.heap[w2.heap.size]? = some (.cells #[.int .i64 0] 37 (0, 0)) := (hbc.block w2.heap.size (by rw [World.size_alloc]; omega)).trans (heap_alloc_new w2 _)
      have hbw : Below w2.heap.size w2 Wc := ((Below.refl w2.heap.size w2).alloc (Nat.le_refl _) _).trans (hbc.mono (by rw [World.size_alloc]; omega))
      have hb3 : Below w2.heap.size w2 w3 := by rw [hw3]; exact hbw.setCell (p := ⟨w2.heap.size, 0, none⟩) (Nat.le_refl _) _
      refine ⟨owns_below HO.out hb3, HB.out.trans (hb3.mono HB.out.size), ?_⟩
      have h9 : w3.heap[w2.heap.size]? = some (.cells #[.int .i64 (k : Int)] 37 (0, 0)) := by
        rw [hw3]
        simp [World.setCell, Array.getElem?_modify, hbx]
      exact cell_of_row w3 _ 0 _ _ (0, 0) h9
    obtain ⟨ho3, hb3, hc3⟩ := hh
    have HO3 := Lib.hid ho3
    have HB3 := Lib.hid hb3
    clear hw3 has ho3 hb3
    go_wp2
    go_region_with (fail)
    all_goals
      go_wp2
      go_ret2
      exact ⟨_, rfl, HO3.out, HB3.out.drew⟩
end Go.Proofs.YtfoncmeplofedaqDoor
