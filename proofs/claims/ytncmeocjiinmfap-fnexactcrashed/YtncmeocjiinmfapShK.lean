/- CONTRACTS: the program's Synced, Crashed. (Written by shimpl.py.) -/
import Derived.Test.YtncmeocjiinmfapShG
import Derived.Test.YtncmeocjiinmfapNItDn
namespace Go.Proofs.Ytncmeocjiinmfap
open Go.RowKit
set_option linter.unusedVariables false
/-- one more of a row that is gone through is done -/
theorem mapped_step (f : It → It) {l : List It} {k : Nat} (h : k < l.length) : ((l.take k).map f ++ l.drop k).set k (f (l.getD k it0)) = (l.take (k + 1)).map f ++ l.drop (k + 1) := by
  have e2 : ((l.take k).map f).length = k := by rw [List.length_map, List.length_take]; omega
  rw [List.drop_eq_getElem_cons h, List.set_append_right _ _ (by omega), e2, Nat.sub_self, List.set_cons_zero, List.take_succ_eq_append_getElem h, List.map_append, List.append_assoc, getD_it h]
  rfl
theorem mapped_get (f : It → It) {l : List It} {k : Nat} (h : k < l.length) : ((l.take k).map f ++ l.drop k).getD k it0 = l.getD k it0 := by
  have e2 : ((l.take k).map f).length = k := by rw [List.length_map, List.length_take]; omega
  simp only [List.getD]
  rw [List.getElem?_append_right (by omega), e2, Nat.sub_self, List.getElem?_drop, Nat.add_zero]
theorem mapped_len (f : It → It) {l : List It} {k : Nat} (h : k ≤ l.length) : ((l.take k).map f ++ l.drop k).length = l.length := by
  rw [List.length_append, List.length_map, List.length_take, List.length_drop]; omega
theorem mapped_end (f : It → It) (l : List It) : (l.take l.length).map f ++ l.drop l.length = l.map f := by rw [List.take_length, List.drop_length, List.append_nil]
set_option maxHeartbeats 4000000 in
set_option maxRecDepth 100000 in
theorem implSynced_any (r : Int) (va : Value) (l : List It) (w : World) (ha : RdG itf 5 w va l) (hl : l.length ≤ 1048576) (hs : ∀ p ∈ l, p.2.1.size ≤ 1048576) :
    Calls Try.prog 17 #[.agg #[.int .i64 r, va]] w fun e w' => ∃ v, e = .returned (.agg #[.int .i64 (syncedT r l).1, v]) ∧ OwnI w' w.heap.size v (syncedT r l).2 ∧ Below w.heap.size w w' := by
  obtain ⟨W2, hW2⟩ : ∃ W2, W2 = (w.alloc (.cells #[.int .i64 r, va] 29)).alloc (.cells #[.int .i64 0, .slice none 0 0] 29) := ⟨_, rfl⟩
  have hb2 : Below w.heap.size w W2 := by
    rw [hW2]; exact ((Below.refl w.heap.size w).alloc (Nat.le_refl _) _).alloc (by rw [alloc_sizeI]; omega) _
  have hs2 : W2.heap.size = w.heap.size + 1 + 1 := by rw [hW2, alloc_sizeI, alloc_sizeI]
  have hA : W2.heap[w.heap.size]? = some (.cells #[.int .i64 r, va] 29 (0, 0)) := by
    rw [hW2, Below.heap_alloc _ _ _ (by rw [alloc_sizeI]; omega)]; exact heap_alloc_new w _
  have hZ : W2.heap[w.heap.size + 1]? = some (.cells #[.int .i64 0, .slice none 0 0] 29 (0, 0)) := by
    rw [hW2]
    have e := heap_alloc_new (w.alloc (.cells #[.int .i64 r, va] 29)) (.cells #[.int .i64 0, .slice none 0 0] 29)
    rw [alloc_sizeI] at e
    exact e
  have HCE : Hid (∀ wr, Below (w.heap.size + 1 + 1) W2 wr → wr.cell? ⟨w.heap.size, 0, none⟩ = some (.int .i64 r) ∧ wr.cell? ⟨w.heap.size, 1, none⟩ = some va ∧ wr.cell? ⟨w.heap.size + 1, 0, none⟩ = some (.int .i64 0) ∧ wr.cell? ⟨w.heap.size + 1, 1, none⟩ = some (.slice none 0 0) ∧ wr.frozen? ⟨w.heap.size + 1, 0, none⟩ = false ∧ wr.frozen? ⟨w.heap.size + 1, 1, none⟩ = false) := fun wr h => by
    have h1 := (h.block w.heap.size (by omega)).trans hA
    have h2 := (h.block (w.heap.size + 1) (by omega)).trans hZ
    exact ⟨cell_of_row wr _ 0 _ _ (0, 0) h1, cell_of_row wr _ 1 _ _ (0, 0) h1, cell_of_row wr _ 0 _ _ (0, 0) h2, cell_of_row wr _ 1 _ _ (0, 0) h2, Lib.frozen_of_heap h2 0, Lib.frozen_of_heap h2 1⟩
  have HFIN : Hid (∀ (w8 : World) (k0 k1 : Value) W3, W3 = (w8.setCell ⟨w.heap.size + 1, 0, none⟩ k0).setCell ⟨w.heap.size + 1, 1, none⟩ k1 → Below (w.heap.size + 1 + 1) W2 w8 → (∀ v L, OwnI w8 (w.heap.size + 1 + 1) v L → OwnI W3 w.heap.size v L) ∧ Below w.heap.size w W3 ∧ W3.heap[w.heap.size + 1]? = some (.cells #[k0, k1] 29 (0, 0))) := fun w8 k0 k1 W3 hW3 hb => by
    subst hW3
    have h2 := (hb.block (w.heap.size + 1) (by omega)).trans hZ
    exact ⟨fun v L ho => own_lower (own_setCell (own_setCell ho (p := ⟨w.heap.size + 1, 0, none⟩) (by show w.heap.size + 1 < _; omega) k0) (p := ⟨w.heap.size + 1, 1, none⟩) (by show w.heap.size + 1 < _; omega) k1) (by omega), ((hb2.trans (hb.mono (by omega))).setCell (p := ⟨w.heap.size + 1, 0, none⟩) (by show w.heap.size ≤ w.heap.size + 1; omega) k0).setCell (p := ⟨w.heap.size + 1, 1, none⟩) (by show w.heap.size ≤ w.heap.size + 1; omega) k1, by simp [World.setCell, Array.getElem?_modify, h2]⟩
  have HLO : Hid (∀ wr, Below (w.heap.size + 1 + 1) W2 wr → Below w.heap.size w wr ∧ w.heap.size + 1 + 1 ≤ wr.heap.size) := fun wr h => ⟨hb2.trans (h.mono (by omega)), by have := h.size; omega⟩
  have hok := implShelfOk_any r va l W2 (rdG_below ha hb2) hl hs
  rw [hs2] at hok
  by_cases hS : shelfB r l = true
  rotate_left
  · have hSf : shelfB r l = false := by simpa using hS
    have et : syncedT r l = (0, []) := by unfold syncedT; rw [if_neg hS]
    rw [hSf] at hok
    rw [et]
    have x0 := HCE.out _ (Below.refl _ _)
    rw [hW2] at hok x0
    obtain ⟨x0, x1, x2, x3, x4, x5⟩ := x0
    obtain ⟨ao, cap, hva⟩ := rdG_shape ha
    have HW := Lib.hid hW2
    subst hva
    clear hA hZ hb2 hs2 ha hW2 hS hSf et hs hl
    go_enter Try.func17, Try.ntmps17
    go_wp2_with fail
    refine hok.mono ?_
    rintro e w3 ⟨rfl, hb3⟩
    have hb4 : Below (w.heap.size + 1 + 1) W2 w3 := by rw [HW.out]; exact hb3
    obtain ⟨y0, y1, y2, y3, y4, y5⟩ := HCE.out _ hb4
    have HF := Lib.hid (fun k0 k1 W3 h => HFIN.out w3 k0 k1 W3 h hb4)
    clear hok hb3 HFIN HCE HLO hb4 x0 x1 x2 x3 x4 x5
    go_wp2
    refine bodyPost_ret (results_cell_row (by rfl) _ _ (w.heap.size + 1) 29 _ (0, 0) _ rfl (HF.out _ _ _ rfl).2.2 Try.underlying29 rfl shelf_size) rfl ?_
    exact ⟨_, rfl, (HF.out _ _ _ rfl).1 _ [] (ownG_nil _ _ _), (HF.out _ _ _ rfl).2.1⟩
  · have et : syncedT r l = (r, l.map syncP) := by unfold syncedT; rw [if_pos hS]
    rw [hS] at hok
    rw [et]
    have HOW : Hid (∀ W, Below (w.heap.size + 1 + 1) W2 W → Calls Try.prog 35 #[va] W fun e w' => ∃ g, e = .returned (.slice (some ⟨g, 0, none⟩) l.length l.length) ∧ Hid (w'.ownsRow (w.heap.size + 1 + 1) 46 5 (.slice (some ⟨g, 0, none⟩) l.length l.length) l.length (rowC itf l)) ∧ Hid (Below (w.heap.size + 1 + 1) W2 w')) := fun W hW => by
      refine (ownNIt_any va l W (rdG_below ha (HLO.out W hW).1) hl hs).mono ?_
      rintro e w' ⟨g, rfl, ho, hb⟩
      exact ⟨_, rfl, own_lower ho (HLO.out W hW).2, hW.trans (hb.mono (HLO.out W hW).2)⟩
    have hll0 : Hid (∀ k, k ≤ l.length → ((l.take k).map syncP ++ l.drop k).length = l.length) := fun k hk => mapped_len syncP hk
    have HST : Hid (∀ k, k < l.length → ((rowC itf ((l.take k).map syncP ++ l.drop k)).set (k * 5 + 3) (.int .i64 (l.getD k it0).2.2.1)).set (k * 5 + 4) (.bool true) = rowC itf ((l.take (k + 1)).map syncP ++ l.drop (k + 1))) := fun k hk => by
      have hll : k < ((l.take k).map syncP ++ l.drop k).length := by rw [mapped_len syncP (by omega)]; exact hk
      have eg := mapped_get syncP hk
      rw [it_set4 _ _ hll, it_set5 _ _ (by rw [List.length_set]; exact hll), ← mapped_step syncP hk, eg, List.set_set]
      congr 1
      have e9 : ((((l.take k).map syncP ++ l.drop k).set k ((l.getD k it0).1, (l.getD k it0).2.1, (l.getD k it0).2.2.1, (l.getD k it0).2.2.1, (l.getD k it0).2.2.2.2)).getD k it0) = ((l.getD k it0).1, (l.getD k it0).2.1, (l.getD k it0).2.2.1, (l.getD k it0).2.2.1, (l.getD k it0).2.2.2.2) := by
        simp only [List.getD]
        rw [List.getElem?_set_self hll]
        rfl
      rw [e9]
      rfl
    have HCELL : Hid (∀ k (B g cap : Nat) (wr : World), k < l.length → wr.ownsRow B 46 5 (.slice (some ⟨g, 0, none⟩) l.length cap) l.length (rowC itf ((l.take k).map syncP ++ l.drop k)) → wr.cell? ⟨g, k * 5, none⟩ = some (.int .i64 (l.getD k it0).1) ∧ wr.cell? ⟨g, k * 5 + 1, none⟩ = some (.string (l.getD k it0).2.1) ∧ wr.cell? ⟨g, k * 5 + 2, none⟩ = some (.int .i64 (l.getD k it0).2.2.1) ∧ wr.cell? ⟨g, k * 5 + 3, none⟩ = some (.int .i64 (l.getD k it0).2.2.2.1) ∧ wr.cell? ⟨g, k * 5 + 4, none⟩ = some (.bool (l.getD k it0).2.2.2.2)) := fun k B g cap wr hk ho => by
      have hll := mapped_len syncP (show k ≤ l.length by omega)
      have ho2 : OwnI wr B (.slice (some ⟨g, 0, none⟩) ((l.take k).map syncP ++ l.drop k).length cap) ((l.take k).map syncP ++ l.drop k) := by
        show wr.ownsRow B 46 5 _ ((l.take k).map syncP ++ l.drop k).length _
        rw [hll]; exact ho
      have h9 := it_cells0 (cellsG_own itW ho2) (show k < ((l.take k).map syncP ++ l.drop k).length by omega)
      rw [mapped_get syncP hk] at h9
      exact h9
    have HEND : Hid (∀ (B : Nat) (v : Value) (wr : World), wr.ownsRow B 46 5 v l.length (rowC itf ((l.take l.length).map syncP ++ l.drop l.length)) → OwnI wr B v (l.map syncP)) := fun B v wr ho => by
      rw [mapped_end] at ho
      show wr.ownsRow B 46 5 _ (l.map syncP).length _
      rw [List.length_map]; exact ho
    have HLC : Hid (∀ k, k ≤ l.length → (rowC itf ((l.take k).map syncP ++ l.drop k)).length = l.length * 5) := fun k hk => by rw [rowC_len itW, mapped_len syncP hk]
    have H0 : Hid ((l.take 0).map syncP ++ l.drop 0 = l) := rfl
    obtain ⟨F, hF⟩ : ∃ F : Nat → List It, F = fun k => (l.take k).map syncP ++ l.drop k := ⟨_, rfl⟩
    have hF' : ∀ k, (l.take k).map syncP ++ l.drop k = F k := fun k => by rw [hF]
    simp only [hF'] at HST HCELL HEND H0 HLC
    clear hF hF' hll0
    have x0 := HCE.out _ (Below.refl _ _)
    rw [hW2] at hok x0
    obtain ⟨x0, x1, x2, x3, x4, x5⟩ := x0
    obtain ⟨ao, cap, hva⟩ := rdG_shape ha
    have HW := Lib.hid hW2
    clear hA hZ hb2 hs2 ha hW2 hS et hs
    generalize l.map syncP = RL at HEND ⊢
    generalize l.length = n at hva HST HCELL HEND HLC HOW hl
    subst hva
    go_enter Try.func17, Try.ntmps17
    go_wp2_with fail
    refine hok.mono ?_
    rintro e w3 ⟨rfl, hb3⟩
    have hb4 : Below (w.heap.size + 1 + 1) W2 w3 := by rw [HW.out]; exact hb3
    obtain ⟨y0, y1, y2, y3, y4, y5⟩ := HCE.out _ hb4
    have HB4 := Lib.hid hb4
    clear hok hb3 hb4 x0 x1 x2 x3 x4 x5
    go_wp2_with fail
    refine (shItems_any r _ _).mono ?_
    rintro e w4 ⟨rfl, hb5⟩
    have HB5 := Lib.hid (HB4.out.trans (hb5.mono (HLO.out _ HB4.out).2))
    have hc5 := HOW.out _ HB5.out
    clear hb5 HOW y0 y1 y2 y3 y4 y5
    go_wp2_with fail
    refine hc5.mono ?_
    rintro e w5 ⟨g, rfl, HO6, HB6⟩
    have ho6 := HO6.out
    have hb6 := HB6.out
    clear hc5 HO6 HB6
    go_wp2
    go_loopw [14] (fun i wr => ∃ k : Nat, k ≤ n ∧ i = .int .i64 (k : Int) ∧ wr.ownsRow (w.heap.size + 1 + 1) 46 5 (.slice (some ⟨g, 0, none⟩) n n) n (rowC itf (F k)) ∧ Below (w.heap.size + 1 + 1) W2 wr) (fun i _ => n - (intOf i).toNat)
    case atStart => exact ⟨0, Nat.zero_le _, rfl, by rw [H0.out]; exact ho6, hb6⟩
    case round =>
      rename World => wr
      obtain ⟨k, hk, rfl, ho, hb⟩ := hrel
      clear ho6 hb6
      have hgB := (ho.lt g rfl).1
      by_cases hltk : k < n
      · have d2 := (HCELL.out k _ g n wr hltk ho).2.2.1
        have hlc := HLC.out k hk
        have f3 := ho.cellAt (k * 5 + 3) (by omega)
        have f4 := ho.cellAt (k * 5 + 4) (by omega)
        have z3 := ho.frozenAt (k * 5 + 3)
        have z4 := ho.frozenAt (k * 5 + 4)
        obtain ⟨u3, hu3⟩ : ∃ u, (rowC itf (F k))[k * 5 + 3]? = some u := ⟨_, List.getElem?_eq_getElem (by omega)⟩
        obtain ⟨u4, hu4⟩ : ∃ u, (rowC itf (F k))[k * 5 + 4]? = some u := ⟨_, List.getElem?_eq_getElem (by omega)⟩
        rw [hu3] at f3
        rw [hu4] at f4
        have hst1 := ho.stored (k * 5 + 3) (.int .i64 (l.getD k it0).2.2.1)
        have hst2 := hst1.1.stored (k * 5 + 4) (.bool true)
        rw [HST.out k hltk] at hst2
        generalize (l.getD k it0).2.2.1 = st at d2 hst1 hst2
        have HO := Lib.hid hst2.1
        have HG := Lib.hid (grown_trans hst1.2 hst2.2)
        have hkI : (k : Int) < (n : Int) := by omega
        clear hst1 hst2 hu3 hu4 hlc
        have HB2 := Lib.hid (hb.grown HG.out (HLO.out _ hb).2 (fun j e => by rw [← Option.some.inj e]; exact hgB))
        clear ho hb HG
        go_wp2
        go_roundw
        case rel => exact ⟨k + 1, by omega, by go_num, HO.out, HB2.out⟩
        case measure => simp [intOf] <;> omega
      · obtain rfl : k = n := by omega
        have HO := Lib.hid (HEND.out _ _ _ ho)
        obtain ⟨y0, y1, y2, y3, y4, y5⟩ := HCE.out _ hb
        have HF := Lib.hid (fun k0 k1 W3 h => HFIN.out wr k0 k1 W3 h hb)
        have hkI : ¬ (k : Int) < (k : Int) := by omega
        clear ho hb HFIN HCE
        go_wp2
        refine bodyPost_ret (results_cell_row (by rfl) _ _ (w.heap.size + 1) 29 _ (0, 0) _ rfl (HF.out _ _ _ rfl).2.2 Try.underlying29 rfl shelf_size) rfl ?_
        exact ⟨_, rfl, (HF.out _ _ _ rfl).1 _ _ HO.out, (HF.out _ _ _ rfl).2.1⟩
set_option maxHeartbeats 4000000 in
set_option maxRecDepth 100000 in
theorem implCrashed_any (r : Int) (va : Value) (l : List It) (w : World) (ha : RdG itf 5 w va l) (hl : l.length ≤ 1048576) (hs : ∀ p ∈ l, p.2.1.size ≤ 1048576) :
    Calls Try.prog 19 #[.agg #[.int .i64 r, va]] w fun e w' => ∃ v, e = .returned (.agg #[.int .i64 (crashedT r l).1, v]) ∧ OwnI w' w.heap.size v (crashedT r l).2 ∧ Below w.heap.size w w' := by
  obtain ⟨W2, hW2⟩ : ∃ W2, W2 = (w.alloc (.cells #[.int .i64 r, va] 29)).alloc (.cells #[.int .i64 0, .slice none 0 0] 29) := ⟨_, rfl⟩
  have hb2 : Below w.heap.size w W2 := by
    rw [hW2]; exact ((Below.refl w.heap.size w).alloc (Nat.le_refl _) _).alloc (by rw [alloc_sizeI]; omega) _
  have hs2 : W2.heap.size = w.heap.size + 1 + 1 := by rw [hW2, alloc_sizeI, alloc_sizeI]
  have hA : W2.heap[w.heap.size]? = some (.cells #[.int .i64 r, va] 29 (0, 0)) := by
    rw [hW2, Below.heap_alloc _ _ _ (by rw [alloc_sizeI]; omega)]; exact heap_alloc_new w _
  have hZ : W2.heap[w.heap.size + 1]? = some (.cells #[.int .i64 0, .slice none 0 0] 29 (0, 0)) := by
    rw [hW2]
    have e := heap_alloc_new (w.alloc (.cells #[.int .i64 r, va] 29)) (.cells #[.int .i64 0, .slice none 0 0] 29)
    rw [alloc_sizeI] at e
    exact e
  have HCE : Hid (∀ wr, Below (w.heap.size + 1 + 1) W2 wr → wr.cell? ⟨w.heap.size, 0, none⟩ = some (.int .i64 r) ∧ wr.cell? ⟨w.heap.size, 1, none⟩ = some va ∧ wr.cell? ⟨w.heap.size + 1, 0, none⟩ = some (.int .i64 0) ∧ wr.cell? ⟨w.heap.size + 1, 1, none⟩ = some (.slice none 0 0) ∧ wr.frozen? ⟨w.heap.size + 1, 0, none⟩ = false ∧ wr.frozen? ⟨w.heap.size + 1, 1, none⟩ = false) := fun wr h => by
    have h1 := (h.block w.heap.size (by omega)).trans hA
    have h2 := (h.block (w.heap.size + 1) (by omega)).trans hZ
    exact ⟨cell_of_row wr _ 0 _ _ (0, 0) h1, cell_of_row wr _ 1 _ _ (0, 0) h1, cell_of_row wr _ 0 _ _ (0, 0) h2, cell_of_row wr _ 1 _ _ (0, 0) h2, Lib.frozen_of_heap h2 0, Lib.frozen_of_heap h2 1⟩
  have HFIN : Hid (∀ (w8 : World) (k0 k1 : Value) W3, W3 = (w8.setCell ⟨w.heap.size + 1, 0, none⟩ k0).setCell ⟨w.heap.size + 1, 1, none⟩ k1 → Below (w.heap.size + 1 + 1) W2 w8 → (∀ v L, OwnI w8 (w.heap.size + 1 + 1) v L → OwnI W3 w.heap.size v L) ∧ Below w.heap.size w W3 ∧ W3.heap[w.heap.size + 1]? = some (.cells #[k0, k1] 29 (0, 0))) := fun w8 k0 k1 W3 hW3 hb => by
    subst hW3
    have h2 := (hb.block (w.heap.size + 1) (by omega)).trans hZ
    exact ⟨fun v L ho => own_lower (own_setCell (own_setCell ho (p := ⟨w.heap.size + 1, 0, none⟩) (by show w.heap.size + 1 < _; omega) k0) (p := ⟨w.heap.size + 1, 1, none⟩) (by show w.heap.size + 1 < _; omega) k1) (by omega), ((hb2.trans (hb.mono (by omega))).setCell (p := ⟨w.heap.size + 1, 0, none⟩) (by show w.heap.size ≤ w.heap.size + 1; omega) k0).setCell (p := ⟨w.heap.size + 1, 1, none⟩) (by show w.heap.size ≤ w.heap.size + 1; omega) k1, by simp [World.setCell, Array.getElem?_modify, h2]⟩
  have HLO : Hid (∀ wr, Below (w.heap.size + 1 + 1) W2 wr → Below w.heap.size w wr ∧ w.heap.size + 1 + 1 ≤ wr.heap.size) := fun wr h => ⟨hb2.trans (h.mono (by omega)), by have := h.size; omega⟩
  have hok := implShelfOk_any r va l W2 (rdG_below ha hb2) hl hs
  rw [hs2] at hok
  by_cases hS : shelfB r l = true
  rotate_left
  · have hSf : shelfB r l = false := by simpa using hS
    have et : crashedT r l = (0, []) := by unfold crashedT; rw [if_neg hS]
    rw [hSf] at hok
    rw [et]
    have x0 := HCE.out _ (Below.refl _ _)
    rw [hW2] at hok x0
    obtain ⟨x0, x1, x2, x3, x4, x5⟩ := x0
    obtain ⟨ao, cap, hva⟩ := rdG_shape ha
    have HW := Lib.hid hW2
    subst hva
    clear hA hZ hb2 hs2 ha hW2 hS hSf et hs hl
    go_enter Try.func19, Try.ntmps19
    go_wp2_with fail
    refine hok.mono ?_
    rintro e w3 ⟨rfl, hb3⟩
    have hb4 : Below (w.heap.size + 1 + 1) W2 w3 := by rw [HW.out]; exact hb3
    obtain ⟨y0, y1, y2, y3, y4, y5⟩ := HCE.out _ hb4
    have HF := Lib.hid (fun k0 k1 W3 h => HFIN.out w3 k0 k1 W3 h hb4)
    clear hok hb3 HFIN HCE HLO hb4 x0 x1 x2 x3 x4 x5
    go_wp2
    refine bodyPost_ret (results_cell_row (by rfl) _ _ (w.heap.size + 1) 29 _ (0, 0) _ rfl (HF.out _ _ _ rfl).2.2 Try.underlying29 rfl shelf_size) rfl ?_
    exact ⟨_, rfl, (HF.out _ _ _ rfl).1 _ [] (ownG_nil _ _ _), (HF.out _ _ _ rfl).2.1⟩
  · have et : crashedT r l = (r, (l.filter fun p => !lostP p).map backP) := by unfold crashedT; rw [if_pos hS]; rfl
    rw [hS] at hok
    rw [et]
    have hRl : (l.filter fun p => !lostP p).length ≤ l.length := List.length_filter_le _ _
    have HLE : Hid (∀ W, Below (w.heap.size + 1 + 1) W2 W → Calls Try.prog 44 #[.agg #[.int .i64 r, va], .func (.func 45) #[] #[]] W fun e w' => ∃ v q, e = .returned (.tuple #[.agg #[.int .i64 r, v], .int .i64 q]) ∧ OwnI w' (w.heap.size + 1 + 1) v (l.filter fun p => !lostP p) ∧ Below (w.heap.size + 1 + 1) W2 w') := fun W hW => by
      refine (less_any r va l _ (l.filter fun p => !lostP p) W (rdG_below ha (HLO.out W hW).1) hl hs hRl (fun B g W9 hW9 hB hB2 ho => deleteIN_any B g l 0 W9 ho hl hB2 (by omega))).mono ?_
      rintro e w' ⟨v, rfl, ho, hb⟩
      exact ⟨v, _, rfl, own_lower ho (HLO.out W hW).2, hW.trans (hb.mono (HLO.out W hW).2)⟩
    obtain ⟨L, hL⟩ : ∃ L, L = l.filter fun p => !lostP p := ⟨_, rfl⟩
    rw [← hL] at hRl HLE ⊢
    clear hL
    have hll0 : Hid (∀ k, k ≤ L.length → ((L.take k).map backP ++ L.drop k).length = L.length) := fun k hk => mapped_len backP hk
    have HST : Hid (∀ k, k < L.length → ((rowC itf ((L.take k).map backP ++ L.drop k)).set (k * 5 + 2) (.int .i64 (L.getD k it0).2.2.2.1)).set (k * 5 + 4) (.bool true) = rowC itf ((L.take (k + 1)).map backP ++ L.drop (k + 1))) := fun k hk => by
      have hll : k < ((L.take k).map backP ++ L.drop k).length := by rw [mapped_len backP (by omega)]; exact hk
      have eg := mapped_get backP hk
      rw [it_set3 _ _ hll, it_set5 _ _ (by rw [List.length_set]; exact hll), ← mapped_step backP hk, eg, List.set_set]
      congr 1
      have e9 : ((((L.take k).map backP ++ L.drop k).set k ((L.getD k it0).1, (L.getD k it0).2.1, (L.getD k it0).2.2.2.1, (L.getD k it0).2.2.2.1, (L.getD k it0).2.2.2.2)).getD k it0) = ((L.getD k it0).1, (L.getD k it0).2.1, (L.getD k it0).2.2.2.1, (L.getD k it0).2.2.2.1, (L.getD k it0).2.2.2.2) := by
        simp only [List.getD]
        rw [List.getElem?_set_self hll]
        rfl
      rw [e9]
      rfl
    have HCELL : Hid (∀ k (B g cap : Nat) (wr : World), k < L.length → wr.ownsRow B 46 5 (.slice (some ⟨g, 0, none⟩) L.length cap) L.length (rowC itf ((L.take k).map backP ++ L.drop k)) → wr.cell? ⟨g, k * 5, none⟩ = some (.int .i64 (L.getD k it0).1) ∧ wr.cell? ⟨g, k * 5 + 1, none⟩ = some (.string (L.getD k it0).2.1) ∧ wr.cell? ⟨g, k * 5 + 2, none⟩ = some (.int .i64 (L.getD k it0).2.2.1) ∧ wr.cell? ⟨g, k * 5 + 3, none⟩ = some (.int .i64 (L.getD k it0).2.2.2.1) ∧ wr.cell? ⟨g, k * 5 + 4, none⟩ = some (.bool (L.getD k it0).2.2.2.2)) := fun k B g cap wr hk ho => by
      have hll := mapped_len backP (show k ≤ L.length by omega)
      have ho2 : OwnI wr B (.slice (some ⟨g, 0, none⟩) ((L.take k).map backP ++ L.drop k).length cap) ((L.take k).map backP ++ L.drop k) := by
        show wr.ownsRow B 46 5 _ ((L.take k).map backP ++ L.drop k).length _
        rw [hll]; exact ho
      have h9 := it_cells0 (cellsG_own itW ho2) (show k < ((L.take k).map backP ++ L.drop k).length by omega)
      rw [mapped_get backP hk] at h9
      exact h9
    have HEND : Hid (∀ (B : Nat) (v : Value) (wr : World), wr.ownsRow B 46 5 v L.length (rowC itf ((L.take L.length).map backP ++ L.drop L.length)) → OwnI wr B v (L.map backP)) := fun B v wr ho => by
      rw [mapped_end] at ho
      show wr.ownsRow B 46 5 _ (L.map backP).length _
      rw [List.length_map]; exact ho
    have HLC : Hid (∀ k, k ≤ L.length → (rowC itf ((L.take k).map backP ++ L.drop k)).length = L.length * 5) := fun k hk => by rw [rowC_len itW, mapped_len backP hk]
    have H0 : Hid ((L.take 0).map backP ++ L.drop 0 = L) := rfl
    obtain ⟨F, hF⟩ : ∃ F : Nat → List It, F = fun k => (L.take k).map backP ++ L.drop k := ⟨_, rfl⟩
    have hF' : ∀ k, (L.take k).map backP ++ L.drop k = F k := fun k => by rw [hF]
    simp only [hF'] at HST HCELL HEND H0 HLC
    clear hF hF' hll0
    have x0 := HCE.out _ (Below.refl _ _)
    rw [hW2] at hok x0
    obtain ⟨x0, x1, x2, x3, x4, x5⟩ := x0
    obtain ⟨ao, cap, hva⟩ := rdG_shape ha
    have HW := Lib.hid hW2
    clear hA hZ hb2 hs2 ha hW2 hS et hs
    generalize L.map backP = RL at HEND ⊢
    have hLl : L.length ≤ 1048576 := by omega
    generalize l.length = nl at hva
    subst hva
    clear hRl hl
    go_enter Try.func19, Try.ntmps19
    go_wp2_with fail
    refine hok.mono ?_
    rintro e w3 ⟨rfl, hb3⟩
    have hb4 : Below (w.heap.size + 1 + 1) W2 w3 := by rw [HW.out]; exact hb3
    obtain ⟨y0, y1, y2, y3, y4, y5⟩ := HCE.out _ hb4
    have hc4 := HLE.out _ hb4
    clear hok hb3 hb4 x0 x1 x2 x3 x4 x5 HLE
    go_wp2_with fail
    refine hc4.mono ?_
    rintro e w4 ⟨v, q, rfl, ho4, hb5⟩
    obtain ⟨bo, bc, hvb⟩ := ownG_shape ho4
    have ho4' : w4.ownsRow (w.heap.size + 1 + 1) 46 5 v L.length (rowC itf (F 0)) := by rw [H0.out]; exact ho4
    generalize L.length = n at hvb HST HCELL HEND HLC hLl ho4'
    have HVB : Hid (∀ g, v.ownBlock = some g → g < w4.heap.size) := fun g h => (ho4.lt g h).2
    have hbA := hb5.alloc (HLO.out _ hb5).2 (.cells #[.int .i64 r, v] 29)
    have hoA := ho4'.alloc (.cells #[.int .i64 r, v] 29)
    have hbx := heap_alloc_new w4 (.cells #[.int .i64 r, v] 29)
    have hCB : w.heap.size + 1 + 1 ≤ w4.heap.size := (HLO.out _ hb5).2
    clear hc4 ho4 ho4' hb5 y0 y1 y2 y3 y4 y5 H0
    subst hvb
    go_wp2_with fail
    go_loopw [19] (fun i wr => ∃ k : Nat, k ≤ n ∧ i = .int .i64 (k : Int) ∧ wr.ownsRow (w.heap.size + 1 + 1) 46 5 (.slice bo n bc) n (rowC itf (F k)) ∧ Hid (wr.heap[w4.heap.size]? = some (.cells #[.int .i64 r, .slice bo n bc] 29 (0, 0))) ∧ Below (w.heap.size + 1 + 1) W2 wr) (fun i _ => n - (intOf i).toNat)
    case atStart => exact ⟨0, Nat.zero_le _, rfl, hoA, hbx, hbA⟩
    case round =>
      rename World => wr
      obtain ⟨k, hk, rfl, ho, hbx, hb⟩ := hrel
      clear hoA hbA
      by_cases hltk : k < n
      · obtain ⟨g, hbo⟩ : ∃ g, bo = some ⟨g, 0, none⟩ := by
          rcases ho.2 with ⟨_, h2⟩ | ⟨g, cap, cur, hv, _⟩
          · omega
          · simp only [Value.slice.injEq] at hv
            exact ⟨g, hv.1⟩
        subst hbo
        obtain ⟨hgB, hgl⟩ := ho.lt g rfl
        have hgC : g < w4.heap.size := HVB.out g rfl
        have hCl : w4.heap.size < wr.heap.size := (Array.getElem?_eq_some_iff.1 hbx.out).1
        obtain ⟨d0, d1, d2, d3, d4⟩ := HCELL.out k _ g bc wr hltk ho
        have hlc := HLC.out k hk
        have hst := HST.out k hltk
        obtain ⟨x, hx⟩ : ∃ x, x = L.getD k it0 := ⟨_, rfl⟩
        rw [← hx] at d0 d1 d2 d3 d4 hst
        obtain ⟨x1, x2, x3, x4, x5⟩ := x
        simp only at d0 d1 d2 d3 d4 hst
        clear hx
        have f2 := ho.cellAt (k * 5 + 2) (by omega)
        have f4 := ho.cellAt (k * 5 + 4) (by omega)
        have z2 := ho.frozenAt (k * 5 + 2)
        have z4 := ho.frozenAt (k * 5 + 4)
        obtain ⟨u2, hu2⟩ : ∃ u, (rowC itf (F k))[k * 5 + 2]? = some u := ⟨_, List.getElem?_eq_getElem (by omega)⟩
        obtain ⟨u4, hu4⟩ : ∃ u, (rowC itf (F k))[k * 5 + 4]? = some u := ⟨_, List.getElem?_eq_getElem (by omega)⟩
        rw [hu2] at f2
        rw [hu4] at f4
        have hst1 := ho.stored (k * 5 + 2) (.int .i64 x4)
        have hst2 := hst1.1.stored (k * 5 + 4) (.bool true)
        rw [hst] at hst2
        have hsr1 := ho.stored (k * 5 + 4) (.bool true)
        have hsr2 := hsr1.1.stored (k * 5 + 2) (.int .i64 x4)
        rw [List.set_comm _ _ (by omega), hst] at hsr2
        have HO := Lib.hid (hst2.1.alloc (.cells #[.int .i64 x1, .string x2, .int .i64 x3, .int .i64 x4, .bool x5] 46))
        have HG := Lib.hid (grown_trans hst1.2 hst2.2)
        have HOr := Lib.hid (hsr2.1.alloc (.cells #[.int .i64 x1, .string x2, .int .i64 x3, .int .i64 x4, .bool x5] 46))
        have HGr := Lib.hid (grown_trans hsr1.2 hsr2.2)
        have hgc : g ≠ w4.heap.size := by omega
        have hgi : g ≠ wr.heap.size := by omega
        have kC := cell_of_row wr w4.heap.size 1 _ _ (0, 0) hbx.out
        simp only [List.getElem?_toArray, List.getElem?_cons_zero, List.getElem?_cons_succ] at kC
        have kC2 : ∀ a : Value, (wr.setCell ⟨g, k * 5 + 2, none⟩ a).cell? ⟨w4.heap.size, 1, none⟩ = some (.slice (some ⟨g, 0, none⟩) n bc) := fun a => (World.cell?_setCell_far _ ⟨g, k * 5 + 2, none⟩ _ _ hgc).trans kC
        have kC4 : ∀ a : Value, (wr.setCell ⟨g, k * 5 + 4, none⟩ a).cell? ⟨w4.heap.size, 1, none⟩ = some (.slice (some ⟨g, 0, none⟩) n bc) := fun a => (World.cell?_setCell_far _ ⟨g, k * 5 + 4, none⟩ _ _ hgc).trans kC
        have HBX : Hid (∀ w9 : World, wr.grownBy w9 (some g) → (World.alloc w9 (.cells #[.int .i64 x1, .string x2, .int .i64 x3, .int .i64 x4, .bool x5] 46)).heap[w4.heap.size]? = some (.cells #[.int .i64 r, .slice (some ⟨g, 0, none⟩) n bc] 29 (0, 0)) ∧ Below (w.heap.size + 1 + 1) W2 (World.alloc w9 (.cells #[.int .i64 x1, .string x2, .int .i64 x3, .int .i64 x4, .bool x5] 46))) := fun w9 h9 => by
          have hb9 := hb.grown h9 (HLO.out _ hb).2 (fun j e => by rw [← Option.some.inj e]; exact hgB)
          exact ⟨(heap_alloc_old w9 _ (Nat.lt_of_lt_of_le hCl h9.size)).trans ((h9.block w4.heap.size hCl (fun e => hgc (Option.some.inj e).symm)).trans hbx.out), hb9.alloc (HLO.out _ hb9).2 _⟩
        have hkI : (k : Int) < (n : Int) := by omega
        clear hst hst1 hst2 hsr1 hsr2 hu2 hu4 hlc ho hb hbx
        go_wp2_with fail
        go_region
        all_goals
          go_wp2
          go_roundw
          case rel => first
            | exact ⟨k + 1, by omega, by go_num, HO.out, (HBX.out _ HG.out).1, (HBX.out _ HG.out).2⟩
            | exact ⟨k + 1, by omega, by go_num, HO.out, (HBX.out _ HG.out).1, (HBX.out _ HG.out).2.drew⟩
            | exact ⟨k + 1, by omega, by go_num, HOr.out, (HBX.out _ HGr.out).1, (HBX.out _ HGr.out).2⟩
            | exact ⟨k + 1, by omega, by go_num, HOr.out, (HBX.out _ HGr.out).1, (HBX.out _ HGr.out).2.drew⟩
          case measure => simp [intOf] <;> omega
      · obtain rfl : k = n := by omega
        have HO := Lib.hid (HEND.out _ _ _ ho)
        obtain ⟨y0, y1, y2, y3, y4, y5⟩ := HCE.out _ hb
        have HF := Lib.hid (fun k0 k1 W3 h => HFIN.out wr k0 k1 W3 h hb)
        have x10 := cell_of_row wr w4.heap.size 0 _ _ (0, 0) hbx.out
        have x11 := cell_of_row wr w4.heap.size 1 _ _ (0, 0) hbx.out
        simp only [List.getElem?_toArray, List.getElem?_cons_zero, List.getElem?_cons_succ] at x10 x11
        have hkI : ¬ (k : Int) < (k : Int) := by omega
        clear ho hb hbx HFIN HCE
        go_wp2
        refine bodyPost_ret (results_cell_row (by rfl) _ _ (w.heap.size + 1) 29 _ (0, 0) _ rfl (HF.out _ _ _ rfl).2.2 Try.underlying29 rfl shelf_size) rfl ?_
        exact ⟨_, rfl, (HF.out _ _ _ rfl).1 _ _ HO.out, (HF.out _ _ _ rfl).2.1⟩
end Go.Proofs.Ytncmeocjiinmfap
