/- CONTRACTS: the specification's l13Copy. -/
import Derived.Test.YtfoncmeplofedaqShF
import Derived.Deep.RegionLaw
namespace Go.Proofs.Ytfoncmeplofedaq
open Go.RowKit
set_option linter.unusedVariables false
theorem itY : TyZ Try.prog 27 82 itf 5 48 itZ (.agg #[.int .i64 0, .string ⟨#[]⟩, .int .i64 0, .int .i64 0, .bool false]) := ⟨Try.underlying27, Try.infoIt, by decide, rfl⟩
set_option maxHeartbeats 2000000 in
set_option maxRecDepth 100000 in
theorem l13Copy_any (r : Int) (va : Value) (l : List It) (w : World) (ha : RdG itf 5 w va l) (hl : l.length ≤ 1048576) :
    Calls Try.prog 27 #[.agg #[.int .i64 r, va]] w fun e w' => ∃ v, e = .returned (.agg #[.int .i64 r, v]) ∧ OwnI w' w.heap.size v l ∧ Below w.heap.size w w' := by
  have hdt := itY.ty itW
  obtain ⟨W2, hW2⟩ : ∃ W2, W2 = (w.alloc (.cells #[.int .i64 r, va] 29)).alloc (.cells #[.int .i64 0, .slice none 0 0] 29) := ⟨_, rfl⟩
  have hb2 : Below w.heap.size w W2 := by
    rw [hW2]; exact ((Below.refl w.heap.size w).alloc (Nat.le_refl _) _).alloc (by rw [alloc_sizeI]; omega) _
  have hs2 : W2.heap.size = w.heap.size + 1 + 1 := by rw [hW2, alloc_sizeI, alloc_sizeI]
  have hA : W2.heap[w.heap.size]? = some (.cells #[.int .i64 r, va] 29 (0, 0)) := by
    rw [hW2, Below.heap_alloc _ _ _ (by rw [alloc_sizeI]; omega)]; exact heap_alloc_new w _
  have hZ : W2.heap[w.heap.size + 1]? = some (.cells #[.int .i64 0, .slice none 0 0] 29 (0, 0)) := by
    rw [hW2]
    have e := heap_alloc_new (w.alloc (.cells #[.int .i64 r, va] 29)) (.cells #[.int .i64 0, .slice none 0 0] 29)
    rw [alloc_sizeI] at e
    exact e
  have HCE : Hid (∀ wr, Below (w.heap.size + 1 + 1) W2 wr → wr.cell? ⟨w.heap.size, 0, none⟩ = some (.int .i64 r) ∧ wr.cell? ⟨w.heap.size, 1, none⟩ = some va ∧ wr.cell? ⟨w.heap.size + 1, 0, none⟩ = some (.int .i64 0) ∧ wr.cell? ⟨w.heap.size + 1, 1, none⟩ = some (.slice none 0 0) ∧ wr.frozen? ⟨w.heap.size + 1, 0, none⟩ = false ∧ wr.frozen? ⟨w.heap.size + 1, 1, none⟩ = false) := fun wr h => by
    have h1 := (h.block w.heap.size (by omega)).trans hA
    have h2 := (h.block (w.heap.size + 1) (by omega)).trans hZ
    exact ⟨cell_of_row wr _ 0 _ _ (0, 0) h1, cell_of_row wr _ 1 _ _ (0, 0) h1, cell_of_row wr _ 0 _ _ (0, 0) h2, cell_of_row wr _ 1 _ _ (0, 0) h2, Lib.frozen_of_heap h2 0, Lib.frozen_of_heap h2 1⟩
  have hB3 := (Below.refl (w.heap.size + 1 + 1) W2).alloc (Nat.le_of_eq hs2.symm) (.cells #[] 82)
  have hlit : OwnI (W2.alloc (.cells #[] 82)) (w.heap.size + 1 + 1) (.slice (some ⟨w.heap.size + 1 + 1, 0, none⟩) 0 0) [] := by
    rw [← hs2]
    exact World.ownsRow_lit (base := W2.heap.size) (e := 82) (size := 5) W2 #[] 0 (Nat.le_refl _) (Nat.zero_le _) rfl
  have hrd : RdG itf 5 (W2.alloc (.cells #[] 82)) va l := rdG_below ha (hb2.trans (hB3.mono (by omega)))
  have hsz : w.heap.size + 1 + 1 ≤ (W2.alloc (.cells #[] 82)).heap.size := by rw [alloc_sizeI]; omega
  obtain ⟨ao, cap, hva⟩ := rdG_shape ha
  have HFIN : Hid (∀ (w8 : World) (v : Value) k0 k1 W3, W3 = (w8.setCell ⟨w.heap.size + 1, 0, none⟩ k0).setCell ⟨w.heap.size + 1, 1, none⟩ k1 → OwnI w8 (w.heap.size + 1 + 1) v l → Below (w.heap.size + 1 + 1) W2 w8 → OwnI W3 w.heap.size v l ∧ Below w.heap.size w W3 ∧ W3.heap[w.heap.size + 1]? = some (.cells #[k0, k1] 29 (0, 0))) := fun w8 v k0 k1 W3 hW3 ho hb => by
    subst hW3
    have h2 := (hb.block (w.heap.size + 1) (by omega)).trans hZ
    exact ⟨own_lower (own_setCell (own_setCell ho (p := ⟨w.heap.size + 1, 0, none⟩) (by show w.heap.size + 1 < _; omega) k0) (p := ⟨w.heap.size + 1, 1, none⟩) (by show w.heap.size + 1 < _; omega) k1) (by omega), ((hb2.trans (hb.mono (by omega))).setCell (p := ⟨w.heap.size + 1, 0, none⟩) (by show w.heap.size ≤ w.heap.size + 1; omega) k0).setCell (p := ⟨w.heap.size + 1, 1, none⟩) (by show w.heap.size ≤ w.heap.size + 1; omega) k1, by simp [World.setCell, Array.getElem?_modify, h2]⟩
  have hsi : Hid ((Try.prog.info? 29).map (·.size) = some 2) := by
    show _ = _
    kernel_rfl
  have HB8 : Hid (∀ w8, (W2.alloc (.cells #[] 82)).drew.grownBy w8 (some (w.heap.size + 1 + 1)) → Below (w.heap.size + 1 + 1) W2 w8) := fun w8 hg => hB3.drew.grown hg hsz (fun j e => Nat.le_of_eq (Option.some.inj e))
  subst hva
  have HW := Lib.hid hW2
  rw [hW2] at hlit hrd hsz
  have HB8' : Hid (∀ w8, (((w.alloc (.cells #[.int .i64 r, .slice ao l.length cap] 29)).alloc (.cells #[.int .i64 0, .slice none 0 0] 29)).alloc (.cells #[] 82)).drew.grownBy w8 (some (w.heap.size + 1 + 1)) → Below (w.heap.size + 1 + 1) W2 w8) := fun w8 h => HB8.out w8 (by rw [hW2]; exact h)
  clear HB8 hB3
  obtain ⟨x0, x1, x2, x3, x4, x5⟩ := HCE.out _ (Below.refl _ _)
  rw [hW2] at x0 x1 x2 x3 x4 x5
  clear hA hZ hb2 hs2 ha hW2
  go_enter Try.func27, Try.ntmps27
  go_wp2
  go_region_law (first
    | (refine step_ownG hdt itW rfl (.tmp 5) (.tmp 7) rfl (w.heap.size + 1 + 1) _ (.slice ao l.length cap) [] l (by simp [Act.eval]) (by simp [Act.eval]) hlit hrd (by simp; omega) hsz ?_; intro v8 w8 ho8 hg8 hi8; have hB8 := HB8'.out _ hg8; obtain ⟨y0, y1, y2, y3, y4, y5⟩ := HCE.out _ hB8; obtain ⟨bo, bcap, rfl⟩ := ownG_shape ho8))
  all_goals
    have HF := Lib.hid (fun k0 k1 W3 h => HFIN.out _ _ k0 k1 W3 h ho8 hB8)
    clear HFIN HB8' HCE ho8 hg8 hi8 hB8
    go_wp2
    refine bodyPost_ret (results_cell_row (by rfl) _ _ (w.heap.size + 1) 29 #[.int .i64 r, .slice bo ([] ++ l).length bcap] (0, 0) _ rfl (HF.out _ _ _ rfl).2.2 Try.underlying29 rfl hsi.out) rfl ?_
    exact ⟨_, rfl, (HF.out _ _ _ rfl).1, (HF.out _ _ _ rfl).2.1⟩
end Go.Proofs.Ytfoncmeplofedaq
