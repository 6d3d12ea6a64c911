/- CONTRACTS: the program's Synced, Crashed. (Written by shimpl.py.) -/
import Derived.Test.YtfoncmeplofedaqGreatDoorShG
import Derived.Test.YtfoncmeplofedaqGreatDoorNItDn
namespace Go.Proofs.YtfoncmeplofedaqGreatDoor
open Go.RowKit
set_option linter.unusedVariables false
/-- one more of a row that is gone through is done -/
theorem mapped_step (f : It → It) {l : List It} {k : Nat} (h : k < l.length) : ((l.take k).map f ++ l.drop k).set k (f (l.getD k it0)) = (l.take (k + 1)).map f ++ l.drop (k + 1) := by
  have e2 : ((l.take k).map f).length = k := by rw [List.length_map, List.length_take]; omega
  rw [List.drop_eq_getElem_cons h, List.set_append_right _ _ (by omega), e2, Nat.sub_self, List.set_cons_zero, List.take_succ_eq_append_getElem h, List.map_append, List.append_assoc, getD_it h]
  rfl
theorem mapped_get (f : It → It) {l : List It} {k : Nat} (h : k < l.length) : ((l.take k).map f ++ l.drop k).getD k it0 = l.getD k it0 := by
  have e2 : ((l.take k).map f).length = k := by rw [List.length_map, List.length_take]; omega
  simp only [List.getD]
  rw [List.getElem?_append_right (by omega), e2, Nat.sub_self, List.getElem?_drop, Nat.add_zero]
theorem mapped_len (f : It → It) {l : List It} {k : Nat} (h : k ≤ l.length) : ((l.take k).map f ++ l.drop k).length = l.length := by
  rw [List.length_append, List.length_map, List.length_take, List.length_drop]; omega
theorem mapped_end (f : It → It) (l : List It) : (l.take l.length).map f ++ l.drop l.length = l.map f := by rw [List.take_length, List.drop_length, List.append_nil]
set_option maxHeartbeats 4000000 in
set_option maxRecDepth 100000 in
theorem implSynced_any (r : Int) (va : Value) (l : List It) (w : World) (ha : RdG itf 5 w va l) (hl : l.length ≤ 1048576) (hs : ∀ p ∈ l, p.2.1.size ≤ 1048576) :
    Calls Tryz.prog 22 #[.agg #[.int .i64 r, va]] w fun e w' => ∃ v, e = .returned (.agg #[.int .i64 (syncedT r l).1, v]) ∧ OwnI w' w.heap.size v (syncedT r l).2 ∧ Below w.heap.size w w' := by
  obtain ⟨W2, hW2⟩ : ∃ W2, W2 = (w.alloc (.cells #[.int .i64 r, va] 26)).alloc (.cells #[.int .i64 0, .slice none 0 0] 26) := ⟨_, rfl⟩
  have hb2 : Below w.heap.size w W2 := by
    rw [hW2]; exact ((Below.refl w.heap.size w).alloc (Nat.le_refl _) _).alloc (by rw [alloc_sizeI]; omega) _
  have hs2 : W2.heap.size = w.heap.size + 1 + 1 := by rw [hW2, alloc_sizeI, alloc_sizeI]
  have hA : W2.heap[w.heap.size]? = some (.cells #[.int .i64 r, va] 26 (0, 0)) := by
    rw [hW2, Below.heap_alloc _ _ _ (by rw [alloc_sizeI]; omega)]; exact heap_alloc_new w _
  have hZ : W2.heap[w.heap.size + 1]? = some (.cells #[.int .i64 0, .slice none 0 0] 26 (0, 0)) := by
    rw [hW2]
    have e := heap_alloc_new (w.alloc (.cells #[.int .i64 r, va] 26)) (.cells #[.int .i64 0, .slice none 0 0] 26)
    rw [alloc_sizeI] at e
    exact e
  have HCE : Hid (∀ wr, Below (w.heap.size + 1 + 1) W2 wr → wr.cell? ⟨w.heap.size, 0, none⟩ = some (.int .i64 r) ∧ wr.cell? ⟨w.heap.size, 1, none⟩ = some va ∧ wr.cell? ⟨w.heap.size + 1, 0, none⟩ = some (.int .i64 0) ∧ wr.cell? ⟨w.heap.size + 1, 1, none⟩ = some (.slice none 0 0) ∧ wr.frozen? ⟨w.heap.size + 1, 0, none⟩ = false ∧ wr.frozen? ⟨w.heap.size + 1, 1, none⟩ = false) := fun wr h => by
    have h1 := (h.block w.heap.size (by omega)).trans hA
    have h2 := (h.block (w.heap.size + 1) (by omega)).trans hZ
    exact ⟨cell_of_row wr _ 0 _ _ (0, 0) h1, cell_of_row wr _ 1 _ _ (0, 0) h1, cell_of_row wr _ 0 _ _ (0, 0) h2, cell_of_row wr _ 1 _ _ (0, 0) h2, Lib.frozen_of_heap h2 0, Lib.frozen_of_heap h2 1⟩
  have HFIN : Hid (∀ (w8 : World) (k0 k1 : Value) W3, W3 = (w8.setCell ⟨w.heap.size + 1, 0, none⟩ k0).setCell ⟨w.heap.size + 1, 1, none⟩ k1 → Below (w.heap.size + 1 + 1) W2 w8 → (∀ v L, OwnI w8 (w.heap.size + 1 + 1) v L → OwnI W3 w.heap.size v L) ∧ Below w.heap.size w W3 ∧ W3.heap[w.heap.size + 1]? = some (.cells #[k0, k1] 26 (0, 0))) := fun w8 k0 k1 W3 hW3 hb => by
    subst hW3
    have h2 := (hb.block (w.heap.size + 1) (by omega)).trans hZ
    exact ⟨fun v L ho => own_lower (own_setCell (own_setCell ho (p := ⟨w.heap.size + 1, 0, none⟩) (by show w.heap.size + 1 < _; omega) k0) (p := ⟨w.heap.size + 1, 1, none⟩) (by show w.heap.size + 1 < _; omega) k1) (by omega), ((hb2.trans (hb.mono (by omega))).setCell (p := ⟨w.heap.size + 1, 0, none⟩) (by show w.heap.size ≤ w.heap.size + 1; omega) k0).setCell (p := ⟨w.heap.size + 1, 1, none⟩) (by show w.heap.size ≤ w.heap.size + 1; omega) k1, by simp [World.setCell, Array.getElem?_modify, h2]⟩
  have HLO : Hid (∀ wr, Below (w.heap.size + 1 + 1) W2 wr → Below w.heap.size w wr ∧ w.heap.size + 1 + 1 ≤ wr.heap.size) := fun wr h => ⟨hb2.trans (h.mono (by omega)), by have := h.size; omega⟩
  have hok := implShelfOk_any r va l W2 (rdG_below ha hb2) hl hs
  rw [hs2] at hok
  by_cases hS : shelfB r l = true
  rotate_left
  · have hSf : shelfB r l = false := by simpa using hS
    have et : syncedT r l = (0, []) := by unfold syncedT; rw [if_neg hS]
    rw [hSf] at hok
    rw [et]
    have x0 := HCE.out _ (Below.refl _ _)
    rw [hW2] at hok x0
    obtain ⟨x0, x1, x2, x3, x4, x5⟩ := x0
    obtain ⟨ao, cap, hva⟩ := rdG_shape ha
    have HW := Lib.hid hW2
    subst hva
    clear hA hZ hb2 hs2 ha hW2 hS hSf et hs hl
    go_enter Tryz.func22, Tryz.ntmps22
    go_wp2_with fail
    refine hok.mono ?_
    rintro e w3 ⟨rfl, hb3⟩
    have hb4 : Below (w.heap.size + 1 + 1) W2 w3 := by rw [HW.out]; exact hb3
    obtain ⟨y0, y1, y2, y3, y4, y5⟩ := HCE.out _ hb4
    have HF := Lib.hid (fun k0 k1 W3 h => HFIN.out w3 k0 k1 W3 h hb4)
    clear hok hb3 HFIN HCE HLO hb4 x0 x1 x2 x3 x4 x5
    go_wp2
    refine bodyPost_ret (results_cell_row (by rfl) _ _ (w.heap.size + 1) 26 _ (0, 0) _ rfl (HF.out _ _ _ rfl).2.2 Tryz.underlying26 rfl shelf_size) rfl ?_
    exact ⟨_, rfl, (HF.out _ _ _ rfl).1 _ [] (ownG_nil _ _ _), (HF.out _ _ _ rfl).2.1⟩
  · have et : syncedT r l = (r, l.map syncP) := by unfold syncedT; rw [if_pos hS]
    rw [hS] at hok
    rw [et]
    have HOW : Hid (∀ W, Below (w.heap.size + 1 + 1) W2 W → Calls Tryz.prog 42 #[va] W fun e w' => ∃ g, e = .returned (.slice (some ⟨g, 0, none⟩) l.length l.length) ∧ Hid (w'.ownsRow (w.heap.size + 1 + 1) 69 5 (.slice (some ⟨g, 0, none⟩) l.length l.length) l.length (rowC itf l)) ∧ Hid (Below (w.heap.size + 1 + 1) W2 w')) := fun W hW => by
      refine (ownNIt_any va l W (rdG_below ha (HLO.out W hW).1) hl hs).mono ?_
      rintro e w' ⟨g, rfl, ho, hb⟩
      exact ⟨_, rfl, own_lower ho (HLO.out W hW).2, hW.trans (hb.mono (HLO.out W hW).2)⟩
    have hll0 : Hid (∀ k, k ≤ l.length → ((l.take k).map syncP ++ l.drop k).length = l.length) := fun k hk => mapped_len syncP hk
    have HST : Hid (∀ k, k < l.length → ((rowC itf ((l.take k).map syncP ++ l.drop k)).set (k * 5 + 3) (.int .i64 (l.getD k it0).2.2.1)).set (k * 5 + 4) (.bool true) = rowC itf ((l.take (k + 1)).map syncP ++ l.drop (k + 1))) := fun k hk => by
      have hll : k < ((l.take k).map syncP ++ l.drop k).length := by rw [mapped_len syncP (by omega)]; exact hk
      have eg := mapped_get syncP hk
      rw [it_set4 _ _ hll, it_set5 _ _ (by rw [List.length_set]; exact hll), ← mapped_step syncP hk, eg, List.set_set]
      congr 1
      have e9 : ((((l.take k).map syncP ++ l.drop k).set k ((l.getD k it0).1, (l.getD k it0).2.1, (l.getD k it0).2.2.1, (l.getD k it0).2.2.1, (l.getD k it0).2.2.2.2)).getD k it0) = ((l.getD k it0).1, (l.getD k it0).2.1, (l.getD k it0).2.2.1, (l.getD k it0).2.2.1, (l.getD k it0).2.2.2.2) := by
        simp only [List.getD]
        rw [List.getElem?_set_self hll]
        rfl
      rw [e9]
      rfl
    have HCELL : Hid (∀ k (B g cap : Nat) (wr : World), k < l.length → wr.ownsRow B 69 5 (.slice (some ⟨g, 0, none⟩) l.length cap) l.length (rowC itf ((l.take k).map syncP ++ l.drop k)) → wr.cell? ⟨g, k * 5, none⟩ = some (.int .i64 (l.getD k it0).1) ∧ wr.cell? ⟨g, k * 5 + 1, none⟩ = some (.string (l.getD k it0).2.1) ∧ wr.cell? ⟨g, k * 5 + 2, none⟩ = some (.int .i64 (l.getD k it0).2.2.1) ∧ wr.cell? ⟨g, k * 5 + 3, none⟩ = some (.int .i64 (l.getD k it0).2.2.2.1) ∧ wr.cell? ⟨g, k * 5 + 4, none⟩ = some (.bool (l.getD k it0).2.2.2.2)) := fun k B g cap wr hk ho => by
      have hll := mapped_len syncP (show k ≤ l.length by omega)
      have ho2 : OwnI wr B (.slice (some ⟨g, 0, none⟩) ((l.take k).map syncP ++ l.drop k).length cap) ((l.take k).map syncP ++ l.drop k) := by
        show wr.ownsRow B 69 5 _ ((l.take k).map syncP ++ l.drop k).length _
        rw [hll]; exact ho
      have h9 := it_cells0 (cellsG_own itW ho2) (show k < ((l.take k).map syncP ++ l.drop k).length by omega)
      rw [mapped_get syncP hk] at h9
      exact h9
    have HEND : Hid (∀ (B : Nat) (v : Value) (wr : World), wr.ownsRow B 69 5 v l.length (rowC itf ((l.take l.length).map syncP ++ l.drop l.length)) → OwnI wr B v (l.map syncP)) := fun B v wr ho => by
      rw [mapped_end] at ho
      show wr.ownsRow B 69 5 _ (l.map syncP).length _
      rw [List.length_map]; exact ho
    have HLC : Hid (∀ k, k ≤ l.length → (rowC itf ((l.take k).map syncP ++ l.drop k)).length = l.length * 5) := fun k hk => by rw [rowC_len itW, mapped_len syncP hk]
    have H0 : Hid ((l.take 0).map syncP ++ l.drop 0 = l) := rfl
    obtain ⟨F, hF⟩ : ∃ F : Nat → List It, F = fun k => (l.take k).map syncP ++ l.drop k := ⟨_, rfl⟩
    have hF' : ∀ k, (l.take k).map syncP ++ l.drop k = F k := fun k => by rw [hF]
    simp only [hF'] at HST HCELL HEND H0 HLC
    clear hF hF' hll0
    have x0 := HCE.out _ (Below.refl _ _)
    rw [hW2] at hok x0
    obtain ⟨x0, x1, x2, x3, x4, x5⟩ := x0
    obtain ⟨ao, cap, hva⟩ := rdG_shape ha
    have HW := Lib.hid hW2
    clear hA hZ hb2 hs2 ha hW2 hS et hs
    generalize l.map syncP = RL at HEND ⊢
    generalize l.length = n at hva HST HCELL HEND HLC HOW hl
    subst hva
    go_enter Tryz.func22, Tryz.ntmps22
    go_wp2_with fail
    refine hok.mono ?_
    rintro e w3 ⟨rfl, hb3⟩
    have hb4 : Below (w.heap.size + 1 + 1) W2 w3 := by rw [HW.out]; exact hb3
    obtain ⟨y0, y1, y2, y3, y4, y5⟩ := HCE.out _ hb4
    have HB4 := Lib.hid hb4
    clear hok hb3 hb4 x0 x1 x2 x3 x4 x5
    go_wp2_with fail
    refine (shItems_any r _ _).mono ?_
    rintro e w4 ⟨rfl, hb5⟩
    have HB5 := Lib.hid (HB4.out.trans (hb5.mono (HLO.out _ HB4.out).2))
    have hc5 := HOW.out _ HB5.out
    clear hb5 HOW y0 y1 y2 y3 y4 y5
    go_wp2_with fail
    refine hc5.mono ?_
    rintro e w5 ⟨g, rfl, HO6, HB6⟩
    have ho6 := HO6.out
    have hb6 := HB6.out
    clear hc5 HO6 HB6
    go_wp2
    go_loopw [14] (fun i wr => ∃ k : Nat, k ≤ n ∧ i = .int .i64 (k : Int) ∧ wr.ownsRow (w.heap.size + 1 + 1) 69 5 (.slice (some ⟨g, 0, none⟩) n n) n (rowC itf (F k)) ∧ Below (w.heap.size + 1 + 1) W2 wr) (fun i _ => n - (intOf i).toNat)
    case atStart => exact ⟨0, Nat.zero_le _, rfl, by rw [H0.out]; exact ho6, hb6⟩
    case round =>
      rename World => wr
      obtain ⟨k, hk, rfl, ho, hb⟩ := hrel
      clear ho6 hb6
      have hgB := (ho.lt g rfl).1
      by_cases hltk : k < n
      · have d2 := (HCELL.out k _ g n wr hltk ho).2.2.1
        have hlc := HLC.out k hk
        have f3 := ho.cellAt (k * 5 + 3) (by omega)
        have f4 := ho.cellAt (k * 5 + 4) (by omega)
        have z3 := ho.frozenAt (k * 5 + 3)
        have z4 := ho.frozenAt (k * 5 + 4)
        obtain ⟨u3, hu3⟩ : ∃ u, (rowC itf (F k))[k * 5 + 3]? = some u := ⟨_, List.getElem?_eq_getElem (by omega)⟩
        obtain ⟨u4, hu4⟩ : ∃ u, (rowC itf (F k))[k * 5 + 4]? = some u := ⟨_, List.getElem?_eq_getElem (by omega)⟩
        rw [hu3] at f3
        rw [hu4] at f4
        have hst1 := ho.stored (k * 5 + 3) (.int .i64 (l.getD k it0).2.2.1)
        have hst2 := hst1.1.stored (k * 5 + 4) (.bool true)
        rw [HST.out k hltk] at hst2
        generalize (l.getD k it0).2.2.1 = st at d2 hst1 hst2
        have HO := Lib.hid hst2.1
        have HG := Lib.hid (grown_trans hst1.2 hst2.2)
        have hkI : (k : Int) < (n : Int) := by omega
        clear hst1 hst2 hu3 hu4 hlc
        have HB2 := Lib.hid (hb.grown HG.out (HLO.out _ hb).2 (fun j e => by rw [← Option.some.inj e]; exact hgB))
        clear ho hb HG
        go_wp2
        go_roundw
        case rel => exact ⟨k + 1, by omega, by go_num, HO.out, HB2.out⟩
        case measure => simp [intOf] <;> omega
      · obtain rfl : k = n := by omega
        have HO := Lib.hid (HEND.out _ _ _ ho)
        obtain ⟨y0, y1, y2, y3, y4, y5⟩ := HCE.out _ hb
        have HF := Lib.hid (fun k0 k1 W3 h => HFIN.out wr k0 k1 W3 h hb)
        have hkI : ¬ (k : Int) < (k : Int) := by omega
        clear ho hb HFIN HCE
        go_wp2
        refine bodyPost_ret (results_cell_row (by rfl) _ _ (w.heap.size + 1) 26 _ (0, 0) _ rfl (HF.out _ _ _ rfl).2.2 Tryz.underlying26 rfl shelf_size) rfl ?_
        exact ⟨_, rfl, (HF.out _ _ _ rfl).1 _ _ HO.out, (HF.out _ _ _ rfl).2.1⟩
end Go.Proofs.YtfoncmeplofedaqGreatDoor
