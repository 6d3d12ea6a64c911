/- CONTRACTS: the specification's Synced, Crashed, Swept. (Written by shgen.py.) -/
import Derived.Test.YtfoncmeplofedaqShY
import Derived.Test.YtfoncmeplofedaqShT
namespace Go.Proofs.Ytfoncmeplofedaq
open Go.RowKit
set_option linter.unusedVariables false
set_option maxHeartbeats 4000000 in
set_option maxRecDepth 100000 in
theorem specSwept_any (r : Int) (va : Value) (l : List It) (round : Int) (vm : Value) (ms : List Int) (w : World) (ha : RdG itf 5 w va l) (hm : Rd w vm (cellsInt64S ms)) (hml : ms.length ≤ 4194304) (hl : l.length ≤ 1048576) (hs : ∀ p ∈ l, p.2.1.size ≤ 1048576) :
    Calls Try.prog 8 #[.agg #[.int .i64 r, va], .int .i64 round, vm] w fun e w' => ∃ v, e = .returned (.tuple #[.agg #[.int .i64 (sweptT r l round ms).1.1, v], .int .i64 (sweptT r l round ms).2]) ∧ OwnI w' w.heap.size v (sweptT r l round ms).1.2 ∧ Below w.heap.size w w' := by
  obtain ⟨W2, hW2⟩ : ∃ W2, W2 = (w.alloc (.cells #[.int .i64 r, va] 29)).alloc (.cells #[.int .i64 0, .slice none 0 0] 29) := ⟨_, rfl⟩
  have hb2 : Below w.heap.size w W2 := by
    rw [hW2]; exact ((Below.refl w.heap.size w).alloc (Nat.le_refl _) _).alloc (by rw [alloc_sizeI]; omega) _
  have hs2 : W2.heap.size = w.heap.size + 1 + 1 := by rw [hW2, alloc_sizeI, alloc_sizeI]
  have hA : W2.heap[w.heap.size]? = some (.cells #[.int .i64 r, va] 29 (0, 0)) := by
    rw [hW2, Below.heap_alloc _ _ _ (by rw [alloc_sizeI]; omega)]; exact heap_alloc_new w _
  have hZ : W2.heap[w.heap.size + 1]? = some (.cells #[.int .i64 0, .slice none 0 0] 29 (0, 0)) := by
    rw [hW2]
    have e := heap_alloc_new (w.alloc (.cells #[.int .i64 r, va] 29)) (.cells #[.int .i64 0, .slice none 0 0] 29)
    rw [alloc_sizeI] at e
    exact e
  have HCE : Hid (∀ wr, Below (w.heap.size + 1 + 1) W2 wr → wr.cell? ⟨w.heap.size, 0, none⟩ = some (.int .i64 r) ∧ wr.cell? ⟨w.heap.size, 1, none⟩ = some va ∧ wr.cell? ⟨w.heap.size + 1, 0, none⟩ = some (.int .i64 0) ∧ wr.cell? ⟨w.heap.size + 1, 1, none⟩ = some (.slice none 0 0) ∧ wr.frozen? ⟨w.heap.size + 1, 0, none⟩ = false ∧ wr.frozen? ⟨w.heap.size + 1, 1, none⟩ = false) := fun wr h => by
    have h1 := (h.block w.heap.size (by omega)).trans hA
    have h2 := (h.block (w.heap.size + 1) (by omega)).trans hZ
    exact ⟨cell_of_row wr _ 0 _ _ (0, 0) h1, cell_of_row wr _ 1 _ _ (0, 0) h1, cell_of_row wr _ 0 _ _ (0, 0) h2, cell_of_row wr _ 1 _ _ (0, 0) h2, Lib.frozen_of_heap h2 0, Lib.frozen_of_heap h2 1⟩
  have HFIN : Hid (∀ (w8 : World) (k0 k1 : Value) W3, W3 = (w8.setCell ⟨w.heap.size + 1, 0, none⟩ k0).setCell ⟨w.heap.size + 1, 1, none⟩ k1 → Below (w.heap.size + 1 + 1) W2 w8 → (∀ v L, OwnI w8 (w.heap.size + 1 + 1) v L → OwnI W3 w.heap.size v L) ∧ Below w.heap.size w W3 ∧ W3.heap[w.heap.size + 1]? = some (.cells #[k0, k1] 29 (0, 0))) := fun w8 k0 k1 W3 hW3 hb => by
    subst hW3
    have h2 := (hb.block (w.heap.size + 1) (by omega)).trans hZ
    exact ⟨fun v L ho => own_lower (own_setCell (own_setCell ho (p := ⟨w.heap.size + 1, 0, none⟩) (by show w.heap.size + 1 < _; omega) k0) (p := ⟨w.heap.size + 1, 1, none⟩) (by show w.heap.size + 1 < _; omega) k1) (by omega), ((hb2.trans (hb.mono (by omega))).setCell (p := ⟨w.heap.size + 1, 0, none⟩) (by show w.heap.size ≤ w.heap.size + 1; omega) k0).setCell (p := ⟨w.heap.size + 1, 1, none⟩) (by show w.heap.size ≤ w.heap.size + 1; omega) k1, by simp [World.setCell, Array.getElem?_modify, h2]⟩
  have hok := specShelfOk_any r va l W2 (rdG_below ha hb2) hl hs
  rw [hs2] at hok
  obtain ⟨ao, cap, hva⟩ := rdG_shape ha
  obtain ⟨x0, x1, x2, x3, x4, x5⟩ := HCE.out _ (Below.refl _ _)
  by_cases hS : shelfB r l = true
  rotate_left
  · have hSf : shelfB r l = false := by simpa using hS
    have et : sweptT r l round ms = ((0, []), -1) := by unfold sweptT; rw [if_neg hS]
    rw [hSf] at hok
    rw [et]
    rw [hW2] at hok x0 x1 x2 x3 x4 x5
    have HW := Lib.hid hW2
    subst hva
    clear hA hZ hb2 hs2 ha hW2 hS hSf et hm
    go_enter Try.func8, Try.ntmps8
    go_wp2_with fail
    refine hok.mono ?_
    rintro e w3 ⟨rfl, hb3⟩
    have hb4 : Below (w.heap.size + 1 + 1) W2 w3 := by rw [HW.out]; exact hb3
    obtain ⟨y0, y1, y2, y3, y4, y5⟩ := HCE.out _ hb4
    have HF := Lib.hid (fun k0 k1 W3 h => HFIN.out w3 k0 k1 W3 h hb4)
    clear hok hb3 HFIN HCE hb4 x0 x1 x2 x3 x4 x5
    go_wp2
    refine bodyPost_ret (results_cell_rowT (by rfl) _ _ (w.heap.size + 1) 29 _ (0, 0) _ rfl (HF.out _ _ _ rfl).2.2 Try.underlying29 rfl shelf_size) rfl ?_
    exact ⟨_, rfl, (HF.out _ _ _ rfl).1 _ [] (ownG_nil _ _ _), (HF.out _ _ _ rfl).2.1⟩
  · have et : sweptT r l round ms = sweptN r l round ms := by exact sweptT_right hS
    rw [hS] at hok
    rw [et]
    have HCP : Hid (∀ wr, Below (w.heap.size + 1 + 1) W2 wr → Calls Try.prog 27 #[.agg #[.int .i64 r, va]] wr fun e w' => ∃ v, e = .returned (.agg #[.int .i64 r, v]) ∧ OwnI w' wr.heap.size v l ∧ Below wr.heap.size wr w') := fun wr h => l13Copy_any r va l wr (rdG_below ha (hb2.trans (h.mono (by omega)))) hl
    have HRM : Hid (∀ wr, Below (w.heap.size + 1 + 1) W2 wr → Rd wr vm (cellsInt64S ms)) := fun wr h => rd_below hm (hb2.trans (h.mono (by omega)))
    rw [hW2] at hok x0 x1 x2 x3 x4 x5
    have HW := Lib.hid hW2
    have HS2 := Lib.hid hs2
    subst hva
    clear hA hZ hb2 hs2 ha hW2 hS et hm
    go_enter Try.func8, Try.ntmps8
    go_wp2_with fail
    refine hok.mono ?_
    rintro e w3 ⟨rfl, hb3⟩
    have hb4 : Below (w.heap.size + 1 + 1) W2 w3 := by rw [HW.out]; exact hb3
    obtain ⟨y0, y1, y2, y3, y4, y5⟩ := HCE.out _ hb4
    have hcp := HCP.out w3 hb4
    have hz3 : w.heap.size + 1 + 1 ≤ w3.heap.size := by have := hb4.size; have := HS2.out; omega
    clear hok hb3 x0 x1 x2 x3 x4 x5 HCP
    go_wp2_with fail
    refine hcp.mono ?_
    rintro e w4 ⟨v, rfl, ho4, hb5⟩
    have hb6 := hb4.trans (hb5.mono hz3)
    obtain ⟨bo, bc, hvb⟩ := ownG_shape ho4
    have hbA := hb6.alloc (by have := hb6.size; have := HS2.out; omega) (.cells #[.int .i64 r, v] 29)
    have hz4 : w.heap.size + 1 + 1 ≤ w4.heap.size := by have := hb5.size; omega
    have hsb : ShB (w.heap.size + 1 + 1) w4.heap.size r v l (w4.alloc (.cells #[.int .i64 r, v] 29)) := ⟨heap_alloc_new w4 _, own_lower (ho4.alloc _) (by omega), hz4, fun e => by have := (ho4.lt _ e).2; omega⟩
    have hin := l13SweptN_any (w.heap.size + 1 + 1) w4.heap.size r v l round vm ms _ hsb (HRM.out _ hbA) hl hml
    subst hvb
    clear hcp ho4 hb5 hb6 hb4 hsb hz3 y0 y1 y2 y3 y4 y5
    go_wp2_with fail
    refine hin.mono ?_
    rintro e w6 ⟨rfl, ⟨v6, hsb6⟩, hb6⟩
    have hb7 := hbA.trans (hb6.mono (by omega))
    obtain ⟨y0, y1, y2, y3, y4, y5⟩ := HCE.out _ hb7
    have k0 := hsb6.c0
    have k1 := hsb6.c1
    obtain ⟨co, cc, hvc⟩ := ownG_shape hsb6.own
    have HO := Lib.hid hsb6.own
    have HF := Lib.hid (fun k0 k1 W3 h => HFIN.out w6 k0 k1 W3 h hb7)
    first | subst hvc | clear hvc
    clear hin hb6 HFIN HCE hb7 hbA hsb6
    go_wp2
    refine bodyPost_ret (results_cell_rowT (by rfl) _ _ (w.heap.size + 1) 29 _ (0, 0) _ rfl (HF.out _ _ _ rfl).2.2 Try.underlying29 rfl shelf_size) rfl ?_
    exact ⟨_, rfl, (HF.out _ _ _ rfl).1 _ _ HO.out, (HF.out _ _ _ rfl).2.1⟩
end Go.Proofs.Ytfoncmeplofedaq
