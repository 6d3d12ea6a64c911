/- CONTRACTS: a blob's own, what two numbers' order is (cmp.Compare), and how own is reached. -/
import Derived.Test.YtfoncmeplofedaeBlR
import Derived.Test.YtfoncmeplofedaeClone
import Derived.Test.YtfoncmeplofedaeCmp
import Derived.Deep.RegionHeld
import Derived.Deep.MidRow
namespace Go.Proofs.Ytfoncmeplofedae
open Go.RowKit
set_option linter.unusedVariables false
theorem meth_own (x : Array Value) (w : World) : (method 252 76 (.agg x) "loop.example/g00260/impl.own").run Try.prog w = .ok (110, .agg x) w := by kernel_rfl
theorem alloc_size (X : World) (o : Obj) : (X.alloc o).heap.size = X.heap.size + 1 := by show (X.heap.push _).size = _; rw [Array.size_push]
set_option maxHeartbeats 1000000 in
theorem blOwn_any (d : Int) (t : ByteArray) (w : World) (ht : t.size ≤ 281474976710656) :
    Calls Try.prog 110 #[.agg #[.int .i64 d, .string t]] w fun e w' => e = .returned (.agg #[.int .i64 d, .string t]) ∧ Below w.heap.size w w' := by
  have hcon : Hid (∀ W, W = ((w.alloc (.cells #[.int .i64 d, .string t] 76)).alloc (.cells #[.int .i64 0, .string ⟨#[]⟩] 76)).drew →
      Calls Try.prog 111 #[.string t] W fun e w' => e = .returned (.string t) ∧ Hid (∀ k0 k1, Below w.heap.size w ((w'.setCell ⟨w.heap.size + 1, 0, none⟩ k0).setCell ⟨w.heap.size + 1, 1, none⟩ k1) ∧ ((w'.setCell ⟨w.heap.size + 1, 0, none⟩ k0).setCell ⟨w.heap.size + 1, 1, none⟩ k1).heap[w.heap.size + 1]? = some (.cells #[k0, k1] 76 (0, 0)) ∧ ((w'.setCell ⟨w.heap.size + 1, 0, none⟩ k0).setCell ⟨w.heap.size + 1, 1, none⟩ k1).cell? ⟨w.heap.size, 0, none⟩ = some (.int .i64 d) ∧ ((w'.setCell ⟨w.heap.size + 1, 0, none⟩ k0).setCell ⟨w.heap.size + 1, 1, none⟩ k1).cell? ⟨w.heap.size, 1, none⟩ = some (.string t)) ∧ w'.heap[w.heap.size + 1]? = some (.cells #[.int .i64 0, .string ⟨#[]⟩] 76 (0, 0)) ∧ (w'.cell? ⟨w.heap.size, 0, none⟩ = some (.int .i64 d) ∧ w'.cell? ⟨w.heap.size, 1, none⟩ = some (.string t))) := by
    intro W hW
    have hbW : Below w.heap.size w W := by
      rw [hW]
      exact (((Below.refl _ w).alloc (Nat.le_refl _) _).alloc (by rw [alloc_size]; omega) _).drew
    have hsW : W.heap.size = w.heap.size + 2 := by
      rw [hW]
      show (World.alloc _ _).heap.size = _
      rw [alloc_size, alloc_size]
    have hz : W.heap[w.heap.size + 1]? = some (.cells #[.int .i64 0, .string ⟨#[]⟩] 76 (0, 0)) := by
      rw [hW]
      have e := heap_alloc_new (w.alloc (.cells #[.int .i64 d, .string t] 76)) (.cells #[.int .i64 0, .string ⟨#[]⟩] 76)
      rw [alloc_size] at e
      exact e
    have hX : W.heap[w.heap.size]? = some (.cells #[.int .i64 d, .string t] 76 (0, 0)) := by
      rw [hW]
      exact (Below.heap_alloc _ _ _ (by rw [alloc_size]; omega)).trans (heap_alloc_new w _)
    refine (clone_any t W ht).mono ?_
    rintro e w' ⟨rfl, hb⟩
    have hz2 := (hb.block (w.heap.size + 1) (by omega)).trans hz
    have hX2 := (hb.block w.heap.size (by omega)).trans hX
    have hbb : Below w.heap.size w w' := hbW.trans (hb.mono (by omega))
    refine ⟨rfl, fun k0 k1 => ?_, hz2, cell_of_row w' w.heap.size 0 _ _ _ hX2, cell_of_row w' w.heap.size 1 _ _ _ hX2⟩
    have hX3 : ((w'.setCell ⟨w.heap.size + 1, 0, none⟩ k0).setCell ⟨w.heap.size + 1, 1, none⟩ k1).heap[w.heap.size]? = some (.cells #[.int .i64 d, .string t] 76 (0, 0)) := by
      rw [Below.heap_setCell _ _ _ _ (show w.heap.size ≠ w.heap.size + 1 by omega), Below.heap_setCell _ _ _ _ (show w.heap.size ≠ w.heap.size + 1 by omega)]
      exact hX2
    exact ⟨(hbb.setCell (p := ⟨w.heap.size + 1, 0, none⟩) (by show w.heap.size ≤ w.heap.size + 1; omega) k0).setCell (p := ⟨w.heap.size + 1, 1, none⟩) (by show w.heap.size ≤ w.heap.size + 1; omega) k1, by simp [World.setCell, Array.getElem?_modify, hz2], cell_of_row _ w.heap.size 0 _ _ _ hX3, cell_of_row _ w.heap.size 1 _ _ _ hX3⟩
  have hsi : Hid ((Try.prog.info? 76).map (·.size) = some 2) := by
    show _ = _
    kernel_rfl
  clear ht
  go_enter Try.func110, Try.ntmps110
  go_wp2
  go_region_held (fun W : World => W.cell? ⟨w.heap.size, 0, none⟩ = some (.int .i64 d) ∧ W.cell? ⟨w.heap.size, 1, none⟩ = some (.string t)) (first | exact hjs | exact ⟨(hfin.out _ _).2.2.1, (hfin.out _ _).2.2.2⟩ | go_keep) (first | (go_at_call 111; refine (hcon.out _ rfl).mono ?_; rintro e w2 ⟨rfl, hfin, hz, hjs⟩; have k0 : w2.cell? ⟨w.heap.size + 1, 0, none⟩ = some (.int .i64 0) := cell_of_row w2 (w.heap.size + 1) 0 _ _ (0, 0) hz; have k1 : w2.cell? ⟨w.heap.size + 1, 1, none⟩ = some (.string ⟨#[]⟩) := cell_of_row w2 (w.heap.size + 1) 1 _ _ (0, 0) hz; have f0 := Lib.frozen_of_heap hz 0; have f1 := Lib.frozen_of_heap hz 1; clear hz))
  all_goals
    go_wp2
    refine bodyPost_ret (results_cell_row (by rfl) _ _ (w.heap.size + 1) 76 #[.int .i64 d, .string t] (0, 0) _ rfl (hfin.out _ _).2.1 Try.underlying76 rfl hsi.out) rfl ?_
    exact ⟨rfl, (hfin.out _ _).1⟩
theorem place1_any (d y : Int) (t : ByteArray) (w : World) :
    Calls Try.prog 81 #[.agg #[.int .i64 d, .string t], .int .i64 y] w fun e w' => e = .returned (.int .i64 (cmpI d y)) ∧ Below w.heap.size w w' := by
  have hb := (Below.refl w.heap.size w).alloc (Nat.le_refl _) (.cells #[.int .i64 d, .string t] 76)
  have mn := fun z W => meth_number z W
  go_enter Try.func81, Try.ntmps81
  go_wp2_with fail
  refine (blNumber_any d t _).mono ?_
  rintro e w8 ⟨rfl, hb8⟩
  have hb9 := hb.trans (hb8.mono hb.size)
  clear hb8 hb
  go_wp2_with fail
  refine (compare_any d y _).mono ?_
  rintro e w7 ⟨rfl, rfl⟩
  go_wp2
  go_ret
  exact ⟨rfl, hb9⟩
end Go.Proofs.Ytfoncmeplofedae
