/- CONTRACT: the program's on: what a right note does to a right shelf. -/
import Derived.Test.YtfoncmeplofedaqGreatDoorBuna
import Derived.Test.YtfoncmeplofedaqGreatDoorShLd
import Derived.Test.YtfoncmeplofedaqGreatDoorSwM
import Derived.Test.YtfoncmeplofedaqGreatDoorReadNums2
import Derived.Test.YtfoncmeplofedaqGreatDoorJouS
namespace Go.Proofs.YtfoncmeplofedaqGreatDoor
open Go.RowKit
set_option linter.unusedVariables false
set_option maxHeartbeats 4000000 in
set_option maxRecDepth 100000 in
theorem on_any (k a : Int) (t : ByteArray) (r : Int) (va : Value) (l : List It) (w : World) (ha : RdG itf 5 w va l) (hp : noteB (k, a, t) = true) (hsh : shelfB r l = true) :
    Calls Tryz.prog 37 #[.agg #[.int .i64 k, .int .i64 a, .string t], .agg #[.int .i64 r, va]] w fun e w' => ∃ v, e = .returned (.tuple #[.agg #[.int .i64 (onT (k, a, t) r l).1.1, v], .bool (onT (k, a, t) r l).2]) ∧ OwnI w' w.heap.size v (onT (k, a, t) r l).1.2 ∧ Below w.heap.size w w' := by
  obtain ⟨hk, haa, htt⟩ := noteB_parts hp
  have hl3 := shelfB_len hsh
  have hl : l.length ≤ 1048576 := by omega
  have hs2k := shelfB_size hsh
  have hs : ∀ p ∈ l, p.2.1.size ≤ 1048576 := fun p hp => by have := hs2k p hp; omega
  obtain ⟨W2, hW2⟩ : ∃ W2, W2 = ((w.alloc (.cells #[.int .i64 k, .int .i64 a, .string t] 40)).alloc (.cells #[.int .i64 r, va] 26)).alloc (.cells #[.int .i64 0, .slice none 0 0] 26) := ⟨_, rfl⟩
  have hb2 : Below w.heap.size w W2 := by
    rw [hW2]; exact (((Below.refl w.heap.size w).alloc (Nat.le_refl _) _).alloc (by rw [alloc_sizeI]; omega) _).alloc (by rw [alloc_sizeI, alloc_sizeI]; omega) _
  have hs2 : W2.heap.size = w.heap.size + 1 + 1 + 1 := by rw [hW2, alloc_sizeI, alloc_sizeI, alloc_sizeI]
  have hN : W2.heap[w.heap.size]? = some (.cells #[.int .i64 k, .int .i64 a, .string t] 40 (0, 0)) := by
    rw [hW2, Below.heap_alloc _ _ _ (by rw [alloc_sizeI, alloc_sizeI]; omega), Below.heap_alloc _ _ _ (by rw [alloc_sizeI]; omega)]; exact heap_alloc_new w _
  have hA : W2.heap[w.heap.size + 1]? = some (.cells #[.int .i64 r, va] 26 (0, 0)) := by
    rw [hW2, Below.heap_alloc _ _ _ (by rw [alloc_sizeI, alloc_sizeI]; omega)]
    have e := heap_alloc_new (w.alloc (.cells #[.int .i64 k, .int .i64 a, .string t] 40)) (.cells #[.int .i64 r, va] 26)
    rw [alloc_sizeI] at e
    exact e
  have hZ : W2.heap[w.heap.size + 1 + 1]? = some (.cells #[.int .i64 0, .slice none 0 0] 26 (0, 0)) := by
    rw [hW2]
    have e := heap_alloc_new ((w.alloc (.cells #[.int .i64 k, .int .i64 a, .string t] 40)).alloc (.cells #[.int .i64 r, va] 26)) (.cells #[.int .i64 0, .slice none 0 0] 26)
    rw [alloc_sizeI, alloc_sizeI] at e
    exact e
  have HCE : Hid (∀ wr, Below (w.heap.size + 1 + 1 + 1) W2 wr → (wr.cell? ⟨w.heap.size, 0, none⟩ = some (.int .i64 k) ∧ wr.cell? ⟨w.heap.size, 1, none⟩ = some (.int .i64 a) ∧ wr.cell? ⟨w.heap.size, 2, none⟩ = some (.string t)) ∧ (wr.cell? ⟨w.heap.size + 1, 0, none⟩ = some (.int .i64 r) ∧ wr.cell? ⟨w.heap.size + 1, 1, none⟩ = some va) ∧ wr.cell? ⟨w.heap.size + 1 + 1, 0, none⟩ = some (.int .i64 0) ∧ wr.cell? ⟨w.heap.size + 1 + 1, 1, none⟩ = some (.slice none 0 0) ∧ wr.frozen? ⟨w.heap.size + 1 + 1, 0, none⟩ = false ∧ wr.frozen? ⟨w.heap.size + 1 + 1, 1, none⟩ = false) := fun wr h => by
    have h0 := (h.block w.heap.size (by omega)).trans hN
    have h1 := (h.block (w.heap.size + 1) (by omega)).trans hA
    have h2 := (h.block (w.heap.size + 1 + 1) (by omega)).trans hZ
    exact ⟨⟨cell_of_row wr _ 0 _ _ (0, 0) h0, cell_of_row wr _ 1 _ _ (0, 0) h0, cell_of_row wr _ 2 _ _ (0, 0) h0⟩, ⟨cell_of_row wr _ 0 _ _ (0, 0) h1, cell_of_row wr _ 1 _ _ (0, 0) h1⟩, cell_of_row wr _ 0 _ _ (0, 0) h2, cell_of_row wr _ 1 _ _ (0, 0) h2, Lib.frozen_of_heap h2 0, Lib.frozen_of_heap h2 1⟩
  have HFIN : Hid (∀ (w8 : World) (k0 k1 : Value) W3, W3 = (w8.setCell ⟨w.heap.size + 1 + 1, 0, none⟩ k0).setCell ⟨w.heap.size + 1 + 1, 1, none⟩ k1 → Below (w.heap.size + 1 + 1 + 1) W2 w8 → (∀ v L, OwnI w8 (w.heap.size + 1 + 1 + 1) v L → OwnI W3 w.heap.size v L) ∧ Below w.heap.size w W3 ∧ W3.heap[w.heap.size + 1 + 1]? = some (.cells #[k0, k1] 26 (0, 0))) := fun w8 k0 k1 W3 hW3 hb => by
    subst hW3
    have h2 := (hb.block (w.heap.size + 1 + 1) (by omega)).trans hZ
    exact ⟨fun v L ho => own_lower (own_setCell (own_setCell ho (p := ⟨w.heap.size + 1 + 1, 0, none⟩) (by show w.heap.size + 1 + 1 < _; omega) k0) (p := ⟨w.heap.size + 1 + 1, 1, none⟩) (by show w.heap.size + 1 + 1 < _; omega) k1) (by omega), ((hb2.trans (hb.mono (by omega))).setCell (p := ⟨w.heap.size + 1 + 1, 0, none⟩) (by show w.heap.size ≤ w.heap.size + 1 + 1; omega) k0).setCell (p := ⟨w.heap.size + 1 + 1, 1, none⟩) (by show w.heap.size ≤ w.heap.size + 1 + 1; omega) k1, by simp [World.setCell, Array.getElem?_modify, h2]⟩
  have HLO : Hid (∀ wr, Below (w.heap.size + 1 + 1 + 1) W2 wr → Below w.heap.size w wr ∧ w.heap.size + 1 + 1 + 1 ≤ wr.heap.size) := fun wr h => ⟨hb2.trans (h.mono (by omega)), by have := h.size; omega⟩
  obtain ⟨⟨x0, x1, x2⟩, ⟨x3, x4⟩, x5, x6, x7, x8⟩ := HCE.out _ (Below.refl _ _)
  rcases hk with rfl | rfl
  · rw [onT_lay]
    have hla : Calls Tryz.prog 50 #[.agg #[.int .i64 r, va], .string t, .int .i64 a] W2 fun e w' => ∃ v, e = .returned (.tuple #[.agg #[.int .i64 r, v], .int .i64 (laidN l t a).2.1, .int .i64 (laidN l t a).2.2]) ∧ Hid (OwnI w' (w.heap.size + 1 + 1 + 1) v (laidN l t a).1) ∧ Hid (Below (w.heap.size + 1 + 1 + 1) W2 w') := by
      refine (laidM_any r va l t a W2 (rdG_below ha hb2) hsh htt haa).mono ?_
      rintro e w' ⟨v, rfl, ho, hb⟩
      rw [hs2] at ho hb
      exact ⟨v, rfl, ho, hb⟩
    generalize (laidN l t a).1 = RL at hla ⊢
    generalize (laidN l t a).2.1 = d9 at hla ⊢
    generalize (laidN l t a).2.2 = c9 at hla ⊢
    obtain ⟨ao, cap, hva⟩ := rdG_shape ha
    generalize l.length = nl at hva
    have HW := Lib.hid hW2
    rw [hW2] at hla x0 x1 x2 x3 x4 x5 x6 x7 x8
    subst hva
    clear ha hW2 hN hA hZ hb2 hs2 hs2k hs hl hl3 hsh hp htt haa
    by_cases hc0 : c9 = 0
    · subst hc0
      go_enter Tryz.func37, Tryz.ntmps37
      go_wp2_with fail
      refine hla.mono ?_
      rintro e w3 ⟨v, rfl, HO3, HB3⟩
      rw [← HW.out] at HB3
      have hbA := HB3.out.alloc (HLO.out _ HB3.out).2 (.cells #[.int .i64 r, v] 26)
      have HBA := Lib.hid hbA
      obtain ⟨⟨z0, z1, z2⟩, ⟨z3, z4⟩, z5, z6, z7, z8⟩ := HCE.out _ hbA
      have HF := Lib.hid (fun k0 k1 W3 h => HFIN.out _ k0 k1 W3 h HBA.out)
      have HOA : Hid (∀ V, V = v → OwnI (w3.alloc (.cells #[.int .i64 r, V] 26)) (w.heap.size + 1 + 1 + 1) V RL) := fun V h => by rw [h]; exact HO3.out.alloc _
      obtain ⟨bo, bc, hvb⟩ := ownG_shape HO3.out
      generalize RL.length = nr at hvb
      subst hvb
      clear hla hbA HFIN HCE HLO x0 x1 x2 x3 x4 x5 x6 x7 x8
      go_wp2
      refine bodyPost_ret (results_cell_rowT (by rfl) _ _ (w.heap.size + 1 + 1) 26 _ (0, 0) _ rfl (HF.out _ _ _ rfl).2.2 Tryz.underlying26 rfl shelf_size) rfl ?_
      exact ⟨_, by first | rfl | simp, (HF.out _ _ _ rfl).1 _ _ (HOA.out _ rfl), (HF.out _ _ _ rfl).2.1⟩
    · have hc0b : (c9 == 0) = false := by simp [hc0]
      by_cases hc1 : c9 = 1
      · subst hc1
        go_enter Tryz.func37, Tryz.ntmps37
        go_wp2_with fail
        refine hla.mono ?_
        rintro e w3 ⟨v, rfl, HO3, HB3⟩
        rw [← HW.out] at HB3
        have hbA := HB3.out.alloc (HLO.out _ HB3.out).2 (.cells #[.int .i64 r, v] 26)
        have HBA := Lib.hid hbA
        obtain ⟨⟨z0, z1, z2⟩, ⟨z3, z4⟩, z5, z6, z7, z8⟩ := HCE.out _ hbA
        have HF := Lib.hid (fun k0 k1 W3 h => HFIN.out _ k0 k1 W3 h HBA.out)
        have HOA : Hid (∀ V, V = v → OwnI (w3.alloc (.cells #[.int .i64 r, V] 26)) (w.heap.size + 1 + 1 + 1) V RL) := fun V h => by rw [h]; exact HO3.out.alloc _
        obtain ⟨bo, bc, hvb⟩ := ownG_shape HO3.out
        generalize RL.length = nr at hvb
        subst hvb
        clear hla hbA HFIN HCE HLO x0 x1 x2 x3 x4 x5 x6 x7 x8
        go_wp2
        refine bodyPost_ret (results_cell_rowT (by rfl) _ _ (w.heap.size + 1 + 1) 26 _ (0, 0) _ rfl (HF.out _ _ _ rfl).2.2 Tryz.underlying26 rfl shelf_size) rfl ?_
        exact ⟨_, by first | rfl | simp, (HF.out _ _ _ rfl).1 _ _ (HOA.out _ rfl), (HF.out _ _ _ rfl).2.1⟩
      · have hc1b : (c9 == 1) = false := by simp [hc1]
        have hdd : decide (c9 = 0 ∨ c9 = 1) = false := decide_eq_false (by omega)
        rw [hdd]
        clear hdd
        go_enter Tryz.func37, Tryz.ntmps37
        go_wp2_with fail
        refine hla.mono ?_
        rintro e w3 ⟨v, rfl, HO3, HB3⟩
        rw [← HW.out] at HB3
        have hbA := HB3.out.alloc (HLO.out _ HB3.out).2 (.cells #[.int .i64 r, v] 26)
        have HBA := Lib.hid hbA
        obtain ⟨⟨z0, z1, z2⟩, ⟨z3, z4⟩, z5, z6, z7, z8⟩ := HCE.out _ hbA
        have HF := Lib.hid (fun k0 k1 W3 h => HFIN.out _ k0 k1 W3 h HBA.out)
        have HOA : Hid (∀ V, V = v → OwnI (w3.alloc (.cells #[.int .i64 r, V] 26)) (w.heap.size + 1 + 1 + 1) V RL) := fun V h => by rw [h]; exact HO3.out.alloc _
        obtain ⟨bo, bc, hvb⟩ := ownG_shape HO3.out
        generalize RL.length = nr at hvb
        subst hvb
        clear hla hbA HFIN HCE HLO x0 x1 x2 x3 x4 x5 x6 x7 x8
        go_wp2
        refine bodyPost_ret (results_cell_rowT (by rfl) _ _ (w.heap.size + 1 + 1) 26 _ (0, 0) _ rfl (HF.out _ _ _ rfl).2.2 Tryz.underlying26 rfl shelf_size) rfl ?_
        exact ⟨_, by first | rfl | simp, (HF.out _ _ _ rfl).1 _ _ (HOA.out _ rfl), (HF.out _ _ _ rfl).2.1⟩
  · rw [onT_sweep]
    have hrn : Calls Tryz.prog 48 #[.string t] W2 (NumsEnd t W2) := implReadNumbers_any t W2 (by omega)
    have hmr : ∀ d ∈ marksL t, 0 ≤ d ∧ d ≤ 1099511627776 := fun d hd => by
      unfold marksL at hd
      cases hq : readNums (byts t) with
      | none => rw [hq] at hd; cases hd
      | some ms => rw [hq] at hd; exact (read_back (byts_bytes t) hq).2.2.1 d hd
    have hml : (marksL t).length ≤ 200 := by
      unfold marksL
      cases hq : readNums (byts t) with
      | none => exact Nat.zero_le _
      | some ms => exact (read_back (byts_bytes t) hq).2.1
    have HSW : Hid (∀ W vm, Below (w.heap.size + 1 + 1 + 1) W2 W → Rd W vm (cellsInt64S (marksL t)) → Calls Tryz.prog 51 #[.agg #[.int .i64 r, va], .int .i64 a, vm] W fun e w' => ∃ v, e = .returned (.tuple #[.agg #[.int .i64 (sweptT r l a (marksL t)).1.1, v], .int .i64 (sweptT r l a (marksL t)).2]) ∧ Hid (OwnI w' (w.heap.size + 1 + 1 + 1) v (sweptT r l a (marksL t)).1.2) ∧ Hid (Below (w.heap.size + 1 + 1 + 1) W2 w')) := fun W vm hW hm => by
      refine (sweptM_any r va l a vm (marksL t) W (rdG_below ha (HLO.out W hW).1) hm (fun d hd => by have := hmr d hd; omega) (by omega) hl hs hsh).mono ?_
      rintro e w' ⟨v, rfl, ho, hb⟩
      exact ⟨v, rfl, own_lower ho (HLO.out W hW).2, hW.trans (hb.mono (HLO.out W hW).2)⟩
    have hst : sweptT r l a (marksL t) = ((if a < r ∨ 100000 < a then r else a, if a < r ∨ 100000 < a then l else sweptL a (marksL t) l), if a < r ∨ 100000 < a then -1 else (l.length : Int) - ((sweptL a (marksL t) l).length : Int)) := by
      unfold sweptT
      rw [if_pos hsh]
      by_cases hc : a < r ∨ 100000 < a
      · rw [if_pos hc, if_pos hc, if_pos hc, if_pos hc]
      · rw [if_neg hc, if_neg hc, if_neg hc, if_neg hc]
    have hdid : (!decide (a < r ∨ 100000 < a)) = decide (0 ≤ (sweptT r l a (marksL t)).2) := by
      rw [hst]
      have h9 := swept_len a (marksL t) l
      by_cases hc : a < r ∨ 100000 < a
      · rw [decide_eq_true hc]; show _ = decide (0 ≤ (if a < r ∨ 100000 < a then (-1 : Int) else _)); rw [if_pos hc]; rfl
      · rw [decide_eq_false hc]; show _ = decide (0 ≤ (if a < r ∨ 100000 < a then (-1 : Int) else _)); rw [if_neg hc, decide_eq_true (by omega)]; rfl
    rw [hdid]
    have e1 : (if a < r ∨ 100000 < a then r else a) = (sweptT r l a (marksL t)).1.1 := by rw [hst]
    have e2 : (if a < r ∨ 100000 < a then l else sweptL a (marksL t) l) = (sweptT r l a (marksL t)).1.2 := by rw [hst]
    rw [e1, e2]
    generalize (sweptT r l a (marksL t)).1.1 = r9 at HSW ⊢
    generalize (sweptT r l a (marksL t)).1.2 = RL at HSW ⊢
    generalize (sweptT r l a (marksL t)).2 = n9 at HSW ⊢
    have HML : Hid ((readNums (byts t)).getD [] = marksL t) := rfl
    have hml2 : (marksL t).length ≤ 200 := hml
    generalize marksL t = ms at HSW HML hml2
    obtain ⟨ao, cap, hva⟩ := rdG_shape ha
    generalize l.length = nl at hva
    have HW := Lib.hid hW2
    rw [hW2] at hrn x0 x1 x2 x3 x4 x5 x6 x7 x8
    subst hva
    clear ha hW2 hN hA hZ hb2 hs2 hs2k hs hl hl3 hsh hp htt haa hmr hml hst hdid e1 e2
    go_enter Tryz.func37, Tryz.ntmps37
    go_wp2_with fail
    refine hrn.mono ?_
    rintro e w3 ⟨vm, rfl, hom, hbm⟩
    rw [HML.out] at hom
    have HB3 : Hid (Below (w.heap.size + 1 + 1 + 1) W2 w3) := by rw [alloc_sizeI, alloc_sizeI, alloc_sizeI] at hbm; rw [HW.out]; exact hbm
    obtain ⟨⟨y0, y1, y2⟩, ⟨y3, y4⟩, y5, y6, y7, y8⟩ := HCE.out _ HB3.out
    have hsw := HSW.out w3 vm HB3.out (rd_owns hom)
    obtain ⟨am, cm, hvm⟩ := owns_slice hom
    generalize ms.length = nm at hvm hml2
    subst hvm
    clear hrn hom hbm HSW x0 x1 x2 x3 x4 x5 x6 x7 x8
    go_wp2_with fail
    refine hsw.mono ?_
    rintro e w4 ⟨v, rfl, HO4, HB4⟩
    have hbA := HB4.out.alloc (HLO.out _ HB4.out).2 (.cells #[.int .i64 r9, v] 26)
    have HBA := Lib.hid hbA
    obtain ⟨⟨z0, z1, z2⟩, ⟨z3, z4⟩, z5, z6, z7, z8⟩ := HCE.out _ hbA
    have HF := Lib.hid (fun k0 k1 W3 h => HFIN.out _ k0 k1 W3 h HBA.out)
    have HOA : Hid (∀ V, V = v → OwnI (w4.alloc (.cells #[.int .i64 r9, V] 26)) (w.heap.size + 1 + 1 + 1) V RL) := fun V h => by rw [h]; exact HO4.out.alloc _
    obtain ⟨bo, bc, hvb⟩ := ownG_shape HO4.out
    generalize RL.length = nr at hvb
    subst hvb
    clear hsw hbA HFIN HCE HLO y0 y1 y2 y3 y4 y5 y6 y7 y8
    go_wp2
    refine bodyPost_ret (results_cell_rowT (by rfl) _ _ (w.heap.size + 1 + 1) 26 _ (0, 0) _ rfl (HF.out _ _ _ rfl).2.2 Tryz.underlying26 rfl shelf_size) rfl ?_
    exact ⟨_, by first | rfl | simp, (HF.out _ _ _ rfl).1 _ _ (HOA.out _ rfl), (HF.out _ _ _ rfl).2.1⟩
end Go.Proofs.YtfoncmeplofedaqGreatDoor
