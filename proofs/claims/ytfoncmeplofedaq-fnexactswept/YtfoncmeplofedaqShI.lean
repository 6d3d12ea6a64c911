/- CONTRACT: the program's Swept, by swept; all of the program's shelves but Laid. -/
import Derived.Test.YtfoncmeplofedaqSwM
namespace Go.Proofs.Ytfoncmeplofedaq
open Go.RowKit
set_option linter.unusedVariables false
set_option maxHeartbeats 4000000 in
set_option maxRecDepth 100000 in
theorem implSwept_any (r : Int) (va : Value) (l : List It) (round : Int) (vm : Value) (ms : List Int) (w : World) (ha : RdG itf 5 w va l) (hm : Rd w vm (cellsInt64S ms)) (hmw : ∀ d ∈ ms, -9223372036854775808 ≤ d ∧ d ≤ 9223372036854775807) (hml : ms.length ≤ 4194304) (hl : l.length ≤ 1048576) (hs : ∀ p ∈ l, p.2.1.size ≤ 1048576) :
    Calls Try.prog 11 #[.agg #[.int .i64 r, va], .int .i64 round, vm] w fun e w' => ∃ v, e = .returned (.tuple #[.agg #[.int .i64 (sweptT r l round ms).1.1, v], .int .i64 (sweptT r l round ms).2]) ∧ OwnI w' w.heap.size v (sweptT r l round ms).1.2 ∧ Below w.heap.size w w' := by
  obtain ⟨W2, hW2⟩ : ∃ W2, W2 = (w.alloc (.cells #[.int .i64 r, va] 29)).alloc (.cells #[.int .i64 0, .slice none 0 0] 29) := ⟨_, rfl⟩
  have hb2 : Below w.heap.size w W2 := by
    rw [hW2]; exact ((Below.refl w.heap.size w).alloc (Nat.le_refl _) _).alloc (by rw [alloc_sizeI]; omega) _
  have hs2 : W2.heap.size = w.heap.size + 1 + 1 := by rw [hW2, alloc_sizeI, alloc_sizeI]
  have hA : W2.heap[w.heap.size]? = some (.cells #[.int .i64 r, va] 29 (0, 0)) := by
    rw [hW2, Below.heap_alloc _ _ _ (by rw [alloc_sizeI]; omega)]; exact heap_alloc_new w _
  have hZ : W2.heap[w.heap.size + 1]? = some (.cells #[.int .i64 0, .slice none 0 0] 29 (0, 0)) := by
    rw [hW2]
    have e := heap_alloc_new (w.alloc (.cells #[.int .i64 r, va] 29)) (.cells #[.int .i64 0, .slice none 0 0] 29)
    rw [alloc_sizeI] at e
    exact e
  have HCE : Hid (∀ wr, Below (w.heap.size + 1 + 1) W2 wr → wr.cell? ⟨w.heap.size, 0, none⟩ = some (.int .i64 r) ∧ wr.cell? ⟨w.heap.size, 1, none⟩ = some va ∧ wr.cell? ⟨w.heap.size + 1, 0, none⟩ = some (.int .i64 0) ∧ wr.cell? ⟨w.heap.size + 1, 1, none⟩ = some (.slice none 0 0) ∧ wr.frozen? ⟨w.heap.size + 1, 0, none⟩ = false ∧ wr.frozen? ⟨w.heap.size + 1, 1, none⟩ = false) := fun wr h => by
    have h1 := (h.block w.heap.size (by omega)).trans hA
    have h2 := (h.block (w.heap.size + 1) (by omega)).trans hZ
    exact ⟨cell_of_row wr _ 0 _ _ (0, 0) h1, cell_of_row wr _ 1 _ _ (0, 0) h1, cell_of_row wr _ 0 _ _ (0, 0) h2, cell_of_row wr _ 1 _ _ (0, 0) h2, Lib.frozen_of_heap h2 0, Lib.frozen_of_heap h2 1⟩
  have HFIN : Hid (∀ (w8 : World) (k0 k1 : Value) W3, W3 = (w8.setCell ⟨w.heap.size + 1, 0, none⟩ k0).setCell ⟨w.heap.size + 1, 1, none⟩ k1 → Below (w.heap.size + 1 + 1) W2 w8 → (∀ v L, OwnI w8 (w.heap.size + 1 + 1) v L → OwnI W3 w.heap.size v L) ∧ Below w.heap.size w W3 ∧ W3.heap[w.heap.size + 1]? = some (.cells #[k0, k1] 29 (0, 0))) := fun w8 k0 k1 W3 hW3 hb => by
    subst hW3
    have h2 := (hb.block (w.heap.size + 1) (by omega)).trans hZ
    exact ⟨fun v L ho => own_lower (own_setCell (own_setCell ho (p := ⟨w.heap.size + 1, 0, none⟩) (by show w.heap.size + 1 < _; omega) k0) (p := ⟨w.heap.size + 1, 1, none⟩) (by show w.heap.size + 1 < _; omega) k1) (by omega), ((hb2.trans (hb.mono (by omega))).setCell (p := ⟨w.heap.size + 1, 0, none⟩) (by show w.heap.size ≤ w.heap.size + 1; omega) k0).setCell (p := ⟨w.heap.size + 1, 1, none⟩) (by show w.heap.size ≤ w.heap.size + 1; omega) k1, by simp [World.setCell, Array.getElem?_modify, h2]⟩
  have HLO : Hid (∀ wr, Below (w.heap.size + 1 + 1) W2 wr → Below w.heap.size w wr ∧ w.heap.size + 1 + 1 ≤ wr.heap.size) := fun wr h => ⟨hb2.trans (h.mono (by omega)), by have := h.size; omega⟩
  have hok := implShelfOk_any r va l W2 (rdG_below ha hb2) hl hs
  rw [hs2] at hok
  have HSW : Hid (shelfB r l = true → ∀ W, Below (w.heap.size + 1 + 1) W2 W → Calls Try.prog 31 #[.agg #[.int .i64 r, va], .int .i64 round, vm] W fun e w' => ∃ v, e = .returned (.tuple #[.agg #[.int .i64 (sweptT r l round ms).1.1, v], .int .i64 (sweptT r l round ms).2]) ∧ Hid (OwnI w' (w.heap.size + 1 + 1) v (sweptT r l round ms).1.2) ∧ Hid (Below (w.heap.size + 1 + 1) W2 w')) := fun hS W hW => by
    refine (sweptM_any r va l round vm ms W (rdG_below ha (HLO.out W hW).1) (rd_below hm (HLO.out W hW).1) hmw hml hl hs hS).mono ?_
    rintro e w' ⟨v, rfl, ho, hb⟩
    exact ⟨v, rfl, own_lower ho (HLO.out W hW).2, hW.trans (hb.mono (HLO.out W hW).2)⟩
  obtain ⟨x0, x1, x2, x3, x4, x5⟩ := HCE.out _ (Below.refl _ _)
  obtain ⟨aom, capm, hvm⟩ := rd_shape hm
  generalize (cellsInt64S ms).length = nm9 at hvm
  obtain ⟨ao, cap, hva⟩ := rdG_shape ha
  by_cases hS : shelfB r l = true
  rotate_left
  · have hSf : shelfB r l = false := by simpa using hS
    have et : sweptT r l round ms = ((0, []), -1) := by unfold sweptT; rw [if_neg hS]
    rw [hSf] at hok
    rw [et]
    rw [hW2] at hok x0 x1 x2 x3 x4 x5
    have HW := Lib.hid hW2
    generalize l.length = nl at hva
    subst hva hvm
    clear hA hZ hb2 hs2 ha hW2 hs hS hSf et hm hmw hl HSW
    go_enter Try.func11, Try.ntmps11
    go_wp2_with fail
    refine hok.mono ?_
    rintro e w3 ⟨rfl, hb3⟩
    have hb4 : Below (w.heap.size + 1 + 1) W2 w3 := by rw [HW.out]; exact hb3
    obtain ⟨y0, y1, y2, y3, y4, y5⟩ := HCE.out _ hb4
    have HF := Lib.hid (fun k0 k1 W3 h => HFIN.out w3 k0 k1 W3 h hb4)
    clear hok hb3 HFIN HCE HLO hb4 x0 x1 x2 x3 x4 x5
    go_wp2
    refine bodyPost_ret (results_cell_rowT (by rfl) _ _ (w.heap.size + 1) 29 _ (0, 0) _ rfl (HF.out _ _ _ rfl).2.2 Try.underlying29 rfl shelf_size) rfl ?_
    exact ⟨_, rfl, (HF.out _ _ _ rfl).1 _ [] (ownG_nil _ _ _), (HF.out _ _ _ rfl).2.1⟩
  · have HSX := Lib.hid (HSW.out hS)
    rw [hS] at hok
    generalize sweptT r l round ms = R at HSX ⊢
    obtain ⟨⟨rr, RL⟩, rn⟩ := R
    rw [hW2] at hok x0 x1 x2 x3 x4 x5
    have HW := Lib.hid hW2
    generalize l.length = nl at hva
    subst hva hvm
    clear hA hZ hb2 hs2 ha hW2 hs hS hm hmw hl HSW
    go_enter Try.func11, Try.ntmps11
    go_wp2_with fail
    refine hok.mono ?_
    rintro e w3 ⟨rfl, hb3⟩
    have hb4 : Below (w.heap.size + 1 + 1) W2 w3 := by rw [HW.out]; exact hb3
    obtain ⟨y0, y1, y2, y3, y4, y5⟩ := HCE.out _ hb4
    have hsx := HSX.out w3 hb4
    clear hok hb3 HSX hb4 x0 x1 x2 x3 x4 x5
    go_wp2_with fail
    refine hsx.mono ?_
    rintro e w4 ⟨v, rfl, HO4, HB4⟩
    obtain ⟨z0, z1, z2, z3, z4, z5⟩ := HCE.out _ HB4.out
    have HF := Lib.hid (fun k0 k1 W3 h => HFIN.out w4 k0 k1 W3 h HB4.out)
    obtain ⟨bo, bc, hvb⟩ := ownG_shape HO4.out
    generalize RL.length = rl9 at hvb
    subst hvb
    clear hsx HFIN HCE HLO y0 y1 y2 y3 y4 y5
    go_wp2
    refine bodyPost_ret (results_cell_rowT (by rfl) _ _ (w.heap.size + 1) 29 _ (0, 0) _ rfl (HF.out _ _ _ rfl).2.2 Try.underlying29 rfl shelf_size) rfl ?_
    exact ⟨_, rfl, (HF.out _ _ _ rfl).1 _ _ HO4.out, (HF.out _ _ _ rfl).2.1⟩
end Go.Proofs.Ytfoncmeplofedaq
