/- CONTRACTS: the program's own of a shelf, less. (Written by shimpl.py.) -/
import Derived.Test.YtfoncmeplofedaqGreatDoorShJ
import Derived.Test.YtfoncmeplofedaqGreatDoorShT
import Derived.Test.YtfoncmeplofedaqGreatDoorBunb
namespace Go.Proofs.YtfoncmeplofedaqGreatDoor
open Go.RowKit
set_option linter.unusedVariables false
set_option maxHeartbeats 4000000 in
set_option maxRecDepth 100000 in
theorem shOwn_any (r : Int) (va : Value) (l : List It) (w : World) (ha : RdG itf 5 w va l) (hl : l.length ≤ 1048576) (hs : ∀ p ∈ l, p.2.1.size ≤ 1048576) :
    Calls Tryz.prog 65 #[.agg #[.int .i64 r, va]] w fun e w' => ∃ v, e = .returned (.agg #[.int .i64 r, v]) ∧ OwnI w' w.heap.size v l ∧ Below w.heap.size w w' := by
  obtain ⟨W2, hW2⟩ : ∃ W2, W2 = (w.alloc (.cells #[.int .i64 r, va] 26)).alloc (.cells #[.int .i64 0, .slice none 0 0] 26) := ⟨_, rfl⟩
  have hb2 : Below w.heap.size w W2 := by
    rw [hW2]; exact ((Below.refl w.heap.size w).alloc (Nat.le_refl _) _).alloc (by rw [alloc_sizeI]; omega) _
  have hs2 : W2.heap.size = w.heap.size + 1 + 1 := by rw [hW2, alloc_sizeI, alloc_sizeI]
  have hA : W2.heap[w.heap.size]? = some (.cells #[.int .i64 r, va] 26 (0, 0)) := by
    rw [hW2, Below.heap_alloc _ _ _ (by rw [alloc_sizeI]; omega)]; exact heap_alloc_new w _
  have hZ : W2.heap[w.heap.size + 1]? = some (.cells #[.int .i64 0, .slice none 0 0] 26 (0, 0)) := by
    rw [hW2]
    have e := heap_alloc_new (w.alloc (.cells #[.int .i64 r, va] 26)) (.cells #[.int .i64 0, .slice none 0 0] 26)
    rw [alloc_sizeI] at e
    exact e
  have HCE : Hid (∀ wr, Below (w.heap.size + 1 + 1) W2 wr → wr.cell? ⟨w.heap.size, 0, none⟩ = some (.int .i64 r) ∧ wr.cell? ⟨w.heap.size, 1, none⟩ = some va ∧ wr.cell? ⟨w.heap.size + 1, 0, none⟩ = some (.int .i64 0) ∧ wr.cell? ⟨w.heap.size + 1, 1, none⟩ = some (.slice none 0 0) ∧ wr.frozen? ⟨w.heap.size + 1, 0, none⟩ = false ∧ wr.frozen? ⟨w.heap.size + 1, 1, none⟩ = false) := fun wr h => by
    have h1 := (h.block w.heap.size (by omega)).trans hA
    have h2 := (h.block (w.heap.size + 1) (by omega)).trans hZ
    exact ⟨cell_of_row wr _ 0 _ _ (0, 0) h1, cell_of_row wr _ 1 _ _ (0, 0) h1, cell_of_row wr _ 0 _ _ (0, 0) h2, cell_of_row wr _ 1 _ _ (0, 0) h2, Lib.frozen_of_heap h2 0, Lib.frozen_of_heap h2 1⟩
  have HFIN : Hid (∀ (w8 : World) (k0 k1 : Value) W3, W3 = (w8.setCell ⟨w.heap.size + 1, 0, none⟩ k0).setCell ⟨w.heap.size + 1, 1, none⟩ k1 → Below (w.heap.size + 1 + 1) W2 w8 → (∀ v L, OwnI w8 (w.heap.size + 1 + 1) v L → OwnI W3 w.heap.size v L) ∧ Below w.heap.size w W3 ∧ W3.heap[w.heap.size + 1]? = some (.cells #[k0, k1] 26 (0, 0))) := fun w8 k0 k1 W3 hW3 hb => by
    subst hW3
    have h2 := (hb.block (w.heap.size + 1) (by omega)).trans hZ
    exact ⟨fun v L ho => own_lower (own_setCell (own_setCell ho (p := ⟨w.heap.size + 1, 0, none⟩) (by show w.heap.size + 1 < _; omega) k0) (p := ⟨w.heap.size + 1, 1, none⟩) (by show w.heap.size + 1 < _; omega) k1) (by omega), ((hb2.trans (hb.mono (by omega))).setCell (p := ⟨w.heap.size + 1, 0, none⟩) (by show w.heap.size ≤ w.heap.size + 1; omega) k0).setCell (p := ⟨w.heap.size + 1, 1, none⟩) (by show w.heap.size ≤ w.heap.size + 1; omega) k1, by simp [World.setCell, Array.getElem?_modify, h2]⟩
  have HLO : Hid (∀ wr, Below (w.heap.size + 1 + 1) W2 wr → Below w.heap.size w wr ∧ w.heap.size + 1 + 1 ≤ wr.heap.size) := fun wr h => ⟨hb2.trans (h.mono (by omega)), by have := h.size; omega⟩
  have HOW : Hid (∀ W, Below (w.heap.size + 1 + 1) W2 W → Calls Tryz.prog 42 #[va] W fun e w' => ∃ v, e = .returned v ∧ Hid (OwnI w' (w.heap.size + 1 + 1) v l) ∧ Hid (Below (w.heap.size + 1 + 1) W2 w')) := fun W hW => by
    refine (ownNIt_any va l W (rdG_below ha (HLO.out W hW).1) hl hs).mono ?_
    rintro e w' ⟨g, rfl, ho, hb⟩
    exact ⟨_, rfl, own_lower ho (HLO.out W hW).2, hW.trans (hb.mono (HLO.out W hW).2)⟩
  have HB0 : Hid (Below (w.heap.size + 1 + 1) W2 W2.drew) := (Below.refl _ _).drew
  have HCX : Hid (∀ wr, Below (w.heap.size + 1 + 1) W2 wr → wr.cell? ⟨w.heap.size, 0, none⟩ = some (.int .i64 r) ∧ wr.cell? ⟨w.heap.size, 1, none⟩ = some va) := fun wr h => ⟨(HCE.out wr h).1, (HCE.out wr h).2.1⟩
  have hne : w.heap.size + 1 ≠ w.heap.size := by omega
  have HCP : Hid (∀ wr (a b : Value), Below (w.heap.size + 1 + 1) W2 wr → ((wr.setCell ⟨w.heap.size + 1, 0, none⟩ a).setCell ⟨w.heap.size + 1, 1, none⟩ b).cell? ⟨w.heap.size, 0, none⟩ = some (.int .i64 r) ∧ ((wr.setCell ⟨w.heap.size + 1, 0, none⟩ a).setCell ⟨w.heap.size + 1, 1, none⟩ b).cell? ⟨w.heap.size, 1, none⟩ = some va) := fun wr a b h =>
    ⟨((World.cell?_setCell_far _ ⟨w.heap.size + 1, 1, none⟩ _ _ hne).trans (World.cell?_setCell_far _ ⟨w.heap.size + 1, 0, none⟩ _ _ hne)).trans (HCE.out wr h).1, ((World.cell?_setCell_far _ ⟨w.heap.size + 1, 1, none⟩ _ _ hne).trans (World.cell?_setCell_far _ ⟨w.heap.size + 1, 0, none⟩ _ _ hne)).trans (HCE.out wr h).2.1⟩
  have k0 := HCX.out _ HB0.out
  rw [hW2] at k0
  have HB0' : Hid (Below (w.heap.size + 1 + 1) W2 ((w.alloc (.cells #[.int .i64 r, va] 26)).alloc (.cells #[.int .i64 0, .slice none 0 0] 26)).drew) := by rw [← hW2]; exact HB0
  obtain ⟨ao, cap, hva⟩ := rdG_shape ha
  generalize l.length = nl at hva
  subst hva
  clear hA hZ hb2 hs2 ha hW2 HB0 hs hl
  go_enter Tryz.func65, Tryz.ntmps65
  go_wp2
  go_region_held (fun wr : World => wr.cell? ⟨w.heap.size, 0, none⟩ = some (.int .i64 r) ∧ wr.cell? ⟨w.heap.size, 1, none⟩ = some (.slice ao nl cap))
    (first | exact k0 | exact k1 | exact k2 | exact HCP.out _ _ _ HB2.out)
    (first
    | (go_at_call 42; refine (HOW.out _ HB1.out).mono ?_; rintro e w2 ⟨v, rfl, HO2, HB2⟩; have k2 := HCX.out _ HB2.out; obtain ⟨_, _, z2, z3, z4, z5⟩ := HCE.out _ HB2.out; obtain ⟨bo, bc, hvb⟩ := ownG_shape HO2.out; subst hvb)
    | (go_at_call 41; refine (shItems_any r (.slice ao nl cap) _).mono ?_; rintro e w1 ⟨rfl, hb1⟩; have HB1 := Lib.hid (HB0'.out.trans (hb1.mono (HLO.out _ HB0'.out).2)); have k1 := HCX.out _ HB1.out; clear hb1))
  all_goals
    have HF := Lib.hid (fun k0 k1 W3 h => HFIN.out w2 k0 k1 W3 h HB2.out)
    clear HFIN HCE HOW HCX HCP
    go_wp2
    refine bodyPost_ret (results_cell_row (by rfl) _ _ (w.heap.size + 1) 26 _ (0, 0) _ rfl (HF.out _ _ _ rfl).2.2 Tryz.underlying26 rfl shelf_size) rfl ?_
    exact ⟨_, rfl, (HF.out _ _ _ rfl).1 _ _ HO2.out, (HF.out _ _ _ rfl).2.1⟩
set_option maxHeartbeats 4000000 in
set_option maxRecDepth 100000 in
theorem less_any (r : Int) (va : Value) (l : List It) (fv : Value) (R : List It) (w : World) (ha : RdG itf 5 w va l) (hl : l.length ≤ 1048576) (hs : ∀ p ∈ l, p.2.1.size ≤ 1048576) (hR : R.length ≤ l.length)
    (HDEL : ∀ (B g : Nat) (W : World), Below w.heap.size w W → w.heap.size < B → B ≤ W.heap.size → OwnI W B (.slice (some ⟨g, 0, none⟩) l.length l.length) l → Calls Tryz.prog 86 #[.slice (some ⟨g, 0, none⟩) l.length l.length, fv] W fun e w' => ∃ v, e = .returned v ∧ OwnI w' B v R ∧ Below B W w') :
    Calls Tryz.prog 67 #[.agg #[.int .i64 r, va], fv] w fun e w' => ∃ v, e = .returned (.tuple #[.agg #[.int .i64 r, v], .int .i64 ((l.length : Int) - (R.length : Int))]) ∧ OwnI w' w.heap.size v R ∧ Below w.heap.size w w' := by
  obtain ⟨W2, hW2⟩ : ∃ W2, W2 = (w.alloc (.cells #[.int .i64 r, va] 26)).alloc (.cells #[.int .i64 0, .slice none 0 0] 26) := ⟨_, rfl⟩
  have hb2 : Below w.heap.size w W2 := by
    rw [hW2]; exact ((Below.refl w.heap.size w).alloc (Nat.le_refl _) _).alloc (by rw [alloc_sizeI]; omega) _
  have hs2 : W2.heap.size = w.heap.size + 1 + 1 := by rw [hW2, alloc_sizeI, alloc_sizeI]
  have hA : W2.heap[w.heap.size]? = some (.cells #[.int .i64 r, va] 26 (0, 0)) := by
    rw [hW2, Below.heap_alloc _ _ _ (by rw [alloc_sizeI]; omega)]; exact heap_alloc_new w _
  have hZ : W2.heap[w.heap.size + 1]? = some (.cells #[.int .i64 0, .slice none 0 0] 26 (0, 0)) := by
    rw [hW2]
    have e := heap_alloc_new (w.alloc (.cells #[.int .i64 r, va] 26)) (.cells #[.int .i64 0, .slice none 0 0] 26)
    rw [alloc_sizeI] at e
    exact e
  have HCE : Hid (∀ wr, Below (w.heap.size + 1 + 1) W2 wr → wr.cell? ⟨w.heap.size, 0, none⟩ = some (.int .i64 r) ∧ wr.cell? ⟨w.heap.size, 1, none⟩ = some va ∧ wr.cell? ⟨w.heap.size + 1, 0, none⟩ = some (.int .i64 0) ∧ wr.cell? ⟨w.heap.size + 1, 1, none⟩ = some (.slice none 0 0) ∧ wr.frozen? ⟨w.heap.size + 1, 0, none⟩ = false ∧ wr.frozen? ⟨w.heap.size + 1, 1, none⟩ = false) := fun wr h => by
    have h1 := (h.block w.heap.size (by omega)).trans hA
    have h2 := (h.block (w.heap.size + 1) (by omega)).trans hZ
    exact ⟨cell_of_row wr _ 0 _ _ (0, 0) h1, cell_of_row wr _ 1 _ _ (0, 0) h1, cell_of_row wr _ 0 _ _ (0, 0) h2, cell_of_row wr _ 1 _ _ (0, 0) h2, Lib.frozen_of_heap h2 0, Lib.frozen_of_heap h2 1⟩
  have HFIN : Hid (∀ (w8 : World) (k0 k1 : Value) W3, W3 = (w8.setCell ⟨w.heap.size + 1, 0, none⟩ k0).setCell ⟨w.heap.size + 1, 1, none⟩ k1 → Below (w.heap.size + 1 + 1) W2 w8 → (∀ v L, OwnI w8 (w.heap.size + 1 + 1) v L → OwnI W3 w.heap.size v L) ∧ Below w.heap.size w W3 ∧ W3.heap[w.heap.size + 1]? = some (.cells #[k0, k1] 26 (0, 0))) := fun w8 k0 k1 W3 hW3 hb => by
    subst hW3
    have h2 := (hb.block (w.heap.size + 1) (by omega)).trans hZ
    exact ⟨fun v L ho => own_lower (own_setCell (own_setCell ho (p := ⟨w.heap.size + 1, 0, none⟩) (by show w.heap.size + 1 < _; omega) k0) (p := ⟨w.heap.size + 1, 1, none⟩) (by show w.heap.size + 1 < _; omega) k1) (by omega), ((hb2.trans (hb.mono (by omega))).setCell (p := ⟨w.heap.size + 1, 0, none⟩) (by show w.heap.size ≤ w.heap.size + 1; omega) k0).setCell (p := ⟨w.heap.size + 1, 1, none⟩) (by show w.heap.size ≤ w.heap.size + 1; omega) k1, by simp [World.setCell, Array.getElem?_modify, h2]⟩
  have HLO : Hid (∀ wr, Below (w.heap.size + 1 + 1) W2 wr → Below w.heap.size w wr ∧ w.heap.size + 1 + 1 ≤ wr.heap.size) := fun wr h => ⟨hb2.trans (h.mono (by omega)), by have := h.size; omega⟩
  have HOW : Hid (∀ W, Below (w.heap.size + 1 + 1) W2 W → Calls Tryz.prog 42 #[va] W fun e w' => ∃ g, e = .returned (.slice (some ⟨g, 0, none⟩) l.length l.length) ∧ Hid (OwnI w' (w.heap.size + 1 + 1) (.slice (some ⟨g, 0, none⟩) l.length l.length) l) ∧ Hid (Below (w.heap.size + 1 + 1) W2 w')) := fun W hW => by
    refine (ownNIt_any va l W (rdG_below ha (HLO.out W hW).1) hl hs).mono ?_
    rintro e w' ⟨g, rfl, ho, hb⟩
    exact ⟨_, rfl, own_lower ho (HLO.out W hW).2, hW.trans (hb.mono (HLO.out W hW).2)⟩
  have HDE : Hid (∀ (g : Nat) (W : World), Below (w.heap.size + 1 + 1) W2 W → OwnI W (w.heap.size + 1 + 1) (.slice (some ⟨g, 0, none⟩) l.length l.length) l → Calls Tryz.prog 86 #[.slice (some ⟨g, 0, none⟩) l.length l.length, fv] W fun e w' => ∃ v, e = .returned v ∧ Hid (OwnI w' (w.heap.size + 1 + 1) v R) ∧ Hid (Below (w.heap.size + 1 + 1) W2 w')) := fun g W hW ho => by
    refine (HDEL (w.heap.size + 1 + 1) g W (HLO.out W hW).1 (by omega) (HLO.out W hW).2 ho).mono ?_
    rintro e w' ⟨v, rfl, ho2, hb⟩
    exact ⟨v, rfl, ho2, hW.trans hb⟩
  have HRF : Hid (Below (w.heap.size + 1 + 1) W2 ((w.alloc (.cells #[.int .i64 r, va] 26)).alloc (.cells #[.int .i64 0, .slice none 0 0] 26))) := by rw [← hW2]; exact Below.refl _ _
  have x0 := HCE.out _ HRF.out
  obtain ⟨y0, y1, y2, y3, y4, y5⟩ := x0
  obtain ⟨ao, cap, hva⟩ := rdG_shape ha
  clear HDEL hs ha
  generalize l.length = nl at hva hl hR HOW HDE ⊢
  subst hva
  clear hA hZ hb2 hs2 hW2
  obtain ⟨rl, hrl⟩ : ∃ n, n = R.length := ⟨_, rfl⟩
  rw [← hrl] at hR ⊢
  have HRL := Lib.hid hrl
  clear hrl
  have hwr : IntKind.i64.wrap ((nl : Int) - (rl : Int)) = (nl : Int) - (rl : Int) := IntWalk.i64_in _ ⟨by omega, by omega⟩
  go_enter Tryz.func67, Tryz.ntmps67
  go_wp2_with fail
  refine (shItems_any r (.slice ao nl cap) _).mono ?_
  rintro e w3 ⟨rfl, hb3⟩
  have HB3 := Lib.hid (HRF.out.trans (hb3.mono (HLO.out _ HRF.out).2))
  have hc3 := HOW.out _ HB3.out
  clear hb3 HOW y0 y1 y2 y3 y4 y5
  go_wp2_with fail
  refine hc3.mono ?_
  rintro e w4 ⟨g, rfl, HO4, HB4⟩
  have hc4 := HDE.out g w4 HB4.out HO4.out
  clear hc3 HDE
  go_wp2_with fail
  refine hc4.mono ?_
  rintro e w5 ⟨v, rfl, HO5, HB5⟩
  obtain ⟨bo, bc, hvb⟩ := ownG_shape HO5.out
  rw [← HRL.out] at hvb
  have HF := Lib.hid (fun k0 k1 W3 h => HFIN.out w5 k0 k1 W3 h HB5.out)
  have HFD := Lib.hid (fun k0 k1 W3 h => HFIN.out w5.drew k0 k1 W3 h HB5.out.drew)
  have HO := Lib.hid (show ∀ V, V = v → OwnI w5 (w.heap.size + 1 + 1) V R from fun V h => by rw [h]; exact HO5.out)
  have HV := Lib.hid hvb
  obtain ⟨y0, y1, y2, y3, y4, y5⟩ := HCE.out _ HB5.out
  have hne : w.heap.size + 1 ≠ w.heap.size := by omega
  have k1 : ∀ a b : Value, ((w5.setCell ⟨w.heap.size + 1, 0, none⟩ a).setCell ⟨w.heap.size + 1, 1, none⟩ b).cell? ⟨w.heap.size, 0, none⟩ = some (.int .i64 r) := fun a b => ((World.cell?_setCell_far _ ⟨w.heap.size + 1, 1, none⟩ _ _ hne).trans (World.cell?_setCell_far _ ⟨w.heap.size + 1, 0, none⟩ _ _ hne)).trans y0
  have k2 : ∀ a b : Value, ((w5.setCell ⟨w.heap.size + 1, 0, none⟩ a).setCell ⟨w.heap.size + 1, 1, none⟩ b).cell? ⟨w.heap.size, 1, none⟩ = some (.slice ao nl cap) := fun a b => ((World.cell?_setCell_far _ ⟨w.heap.size + 1, 1, none⟩ _ _ hne).trans (World.cell?_setCell_far _ ⟨w.heap.size + 1, 0, none⟩ _ _ hne)).trans y1
  subst hvb
  clear hc4 HFIN HB3 HB4 HO4 HRF
  go_wp2_with fail
  go_region
  all_goals
    go_wp2
    refine bodyPost_ret (results_cell_rowT (by rfl) _ _ (w.heap.size + 1) 26 _ (0, 0) _ rfl (HFD.out _ _ _ rfl).2.2 Tryz.underlying26 rfl shelf_size) rfl ?_
    exact ⟨_, rfl, (HFD.out _ _ _ rfl).1 _ _ (HO.out _ rfl), (HFD.out _ _ _ rfl).2.1⟩
end Go.Proofs.YtfoncmeplofedaqGreatDoor
