/- CONTRACT: the program's Replayed, by replay and errors.Is. -/
import Derived.Test.YtfoncmeplofedaqGreatDoorRepI
import Derived.Test.YtfoncmeplofedaqGreatDoorIsE
import Derived.Test.YtfoncmeplofedaqGreatDoorShK
namespace Go.Proofs.YtfoncmeplofedaqGreatDoor
open Go.RowKit
set_option linter.unusedVariables false
set_option maxHeartbeats 8000000 in
set_option maxRecDepth 100000 in
theorem implReplayed_any (va : Value) (L : List Nt) (b : Addr) (w : World) (hG : NoNt w b) (ha : RdG ntf 3 w va L) (hl : L.length ≤ 1048576) (hs : ∀ p ∈ L, p.2.2.size ≤ 1048576) :
    Calls Tryz.prog 7 #[va] w fun e w' => ∃ v, e = .returned (.tuple #[.agg #[.int .i64 (replayedT L).1.1, v], .int .i64 (replayedT L).2]) ∧ OwnI w' w.heap.size v (replayedT L).1.2 ∧ Below w.heap.size w w' := by
  obtain ⟨W1, hW1⟩ : ∃ W1, W1 = w.alloc (.cells #[.int .i64 0, .slice none 0 0] 26) := ⟨_, rfl⟩
  have hb1 : Below w.heap.size w W1 := by rw [hW1]; exact (Below.refl w.heap.size w).alloc (Nat.le_refl _) _
  have hs1 : W1.heap.size = w.heap.size + 1 := by rw [hW1, World.size_alloc]
  have hbox : W1.heap[w.heap.size]? = some (.cells #[.int .i64 0, .slice none 0 0] 26 (0, 0)) := by rw [hW1]; exact heap_alloc_new w _
  have HLO : Hid (∀ W, Below (w.heap.size + 1) W1 W → Below w.heap.size w W ∧ w.heap.size + 1 ≤ W.heap.size) := fun W h => ⟨hb1.trans (h.mono (by omega)), by have := h.size; omega⟩
  have HBX : Hid (∀ W, Below (w.heap.size + 1) W1 W → W.heap[w.heap.size]? = some (.cells #[.int .i64 0, .slice none 0 0] 26 (0, 0))) := fun W h => (h.block w.heap.size (by omega)).trans hbox
  have HCE : Hid (∀ W, Below (w.heap.size + 1) W1 W → W.cell? ⟨w.heap.size, 0, none⟩ = some (.int .i64 0) ∧ W.cell? ⟨w.heap.size, 1, none⟩ = some (.slice none 0 0) ∧ W.frozen? ⟨w.heap.size, 0, none⟩ = false ∧ W.frozen? ⟨w.heap.size, 1, none⟩ = false) := fun W h => by
    have e := HBX.out W h
    exact ⟨cell_of_row W _ 0 _ _ (0, 0) e, cell_of_row W _ 1 _ _ (0, 0) e, Lib.frozen_of_heap e 0, Lib.frozen_of_heap e 1⟩
  have HFIN : Hid (∀ W, Below (w.heap.size + 1) W1 W → ∀ k0 k1, ((W.setCell ⟨w.heap.size, 0, none⟩ k0).setCell ⟨w.heap.size, 1, none⟩ k1).heap[w.heap.size]? = some (.cells #[k0, k1] 26 (0, 0)) ∧ (∀ v L, OwnI W (w.heap.size + 1) v L → OwnI ((W.setCell ⟨w.heap.size, 0, none⟩ k0).setCell ⟨w.heap.size, 1, none⟩ k1) w.heap.size v L) ∧ Below w.heap.size w ((W.setCell ⟨w.heap.size, 0, none⟩ k0).setCell ⟨w.heap.size, 1, none⟩ k1)) := fun W h k0 k1 =>
    ⟨by simp [World.setCell, Array.getElem?_modify, HBX.out W h], fun v L ho => own_lower (own_setCell (own_setCell ho (p := ⟨w.heap.size, 0, none⟩) (by show w.heap.size < _; omega) _) (p := ⟨w.heap.size, 1, none⟩) (by show w.heap.size < _; omega) _) (by omega), ((HLO.out W h).1.setCell (p := ⟨w.heap.size, 0, none⟩) (Nat.le_refl _) _).setCell (p := ⟨w.heap.size, 1, none⟩) (Nat.le_refl _) _⟩
  have HGL : Hid (∀ W, Below (w.heap.size + 1) W1 W → NoNt W b) := fun W h => noNt_below hG (HLO.out W h).1
  have hrp := replay_any va L W1 (rdG_below ha hb1) hl hs
  have HCV : Hid (∀ e w', RepEnd L W1 e w' → (∃ r l c v, playN L 0 [] 0 = some ((r, l), c) ∧ e = .returned (.tuple #[.agg #[.int .i64 r, v], .int .i64 c, .nilIface]) ∧ Hid (OwnI w' (w.heap.size + 1) v l) ∧ Hid (Below (w.heap.size + 1) W1 w')) ∨
      (playN L 0 [] 0 = none ∧ ∃ r l c v z, e = .returned (.tuple #[.agg #[.int .i64 r, v], .int .i64 c, .iface 77 (.agg #[.int .i64 z])]) ∧ Hid (OwnI w' (w.heap.size + 1) v l) ∧ Hid (Below (w.heap.size + 1) W1 w'))) := fun e w' h => by
    unfold RepEnd at h
    rw [hs1] at h
    exact h
  obtain ⟨ao, cap, hva⟩ := rdG_shape ha
  generalize L.length = nl at hva
  have HW := Lib.hid hW1
  subst hva
  have HRP : Hid (Calls Tryz.prog 20 #[.slice ao nl cap] (w.alloc (.cells #[.int .i64 0, .slice none 0 0] 26)) (RepEnd L W1)) := by rw [← hW1]; exact hrp
  clear ha hl hs hW1 hbox hb1 hs1 hrp hG
  go_enter Tryz.func7, Tryz.ntmps7
  go_wp2_with fail
  refine HRP.out.mono ?_
  intro e w2 he
  rcases HCV.out e w2 he with ⟨r, l, c, v, hp, rfl, HO2, HB2⟩ | ⟨hp, r, l, c, v, z, rfl, HO2, HB2⟩
  · have HE := Lib.hid (replayed_some hp)
    have hsh := play_right L 0 0 [] r c l right_empty hp
    have hbA := HB2.out.alloc (HLO.out _ HB2.out).2 (.cells #[.int .i64 r, v] 26)
    have HBA := Lib.hid hbA
    have hgl : (w2.alloc (.cells #[.int .i64 r, v] 26)).cell? ⟨0, 0, none⟩ = some (.iface 153 (.pointer (some b))) := HGL.out _ hbA
    have HOA : OwnI (w2.alloc (.cells #[.int .i64 r, v] 26)) (w.heap.size + 1) v l := HO2.out.alloc _
    have hl3 := shelfB_len hsh
    have hsy := implSynced_any r v l (w2.alloc (.cells #[.int .i64 r, v] 26)) (rdG_owns itW HOA) (by omega) (fun p hp => by have := shelfB_size hsh p hp; omega)
    have est : syncedT r l = (r, syncL l) := by unfold syncedT; rw [if_pos hsh]
    rw [est] at hsy
    have HSY := Lib.hid hsy
    obtain ⟨bo, bc, hvb⟩ := ownG_shape HO2.out
    generalize l.length = nl9 at hvb
    subst hvb
    clear he hp hsh hbA HOA hl3 hsy est HRP HCV
    go_wp2_with fail
    refine (isNil_any b _).mono ?_
    rintro e w3 ⟨rfl, rfl⟩
    go_wp2_with fail
    refine HSY.out.mono ?_
    rintro e w4 ⟨v4, rfl, ho4, hb4⟩
    have HB4 := Lib.hid (HBA.out.trans (hb4.mono (HLO.out _ HBA.out).2))
    have HO4 : Hid (∀ V, V = v4 → OwnI w4 (w.heap.size + 1) V (syncL l)) := fun V h => by rw [h]; exact own_lower ho4 (HLO.out _ HBA.out).2
    obtain ⟨z0, z1, z2, z3⟩ := HCE.out _ HB4.out
    have HF := Lib.hid (HFIN.out _ HB4.out)
    obtain ⟨o4, c4, hv4⟩ := ownG_shape ho4
    generalize (syncL l).length = nl4 at hv4
    subst hv4
    clear ho4 hb4 HSY hgl HFIN HCE HBX HLO HGL
    go_wp2
    refine bodyPost_ret (results_cell_rowT (by rfl) _ _ w.heap.size 26 _ (0, 0) _ rfl (HF.out _ _).1 Tryz.underlying26 rfl shelf_size) rfl ?_
    exact ⟨_, by rw [HE.out]; rfl, by rw [HE.out]; exact (HF.out _ _).2.1 _ _ (HO4.out _ rfl), (HF.out _ _).2.2⟩
  · have HE := Lib.hid (replayed_none hp)
    have hbA := HB2.out.alloc (HLO.out _ HB2.out).2 (.cells #[.int .i64 r, v] 26)
    have HBA := Lib.hid hbA
    have hgl : (w2.alloc (.cells #[.int .i64 r, v] 26)).cell? ⟨0, 0, none⟩ = some (.iface 153 (.pointer (some b))) := HGL.out _ hbA
    have hism := isMis_any z b (w2.alloc (.cells #[.int .i64 r, v] 26)) (HGL.out _ hbA)
    obtain ⟨bo, bc, hvb⟩ := ownG_shape HO2.out
    generalize l.length = nl9 at hvb
    subst hvb
    clear he hp hbA HRP HCV
    go_wp2_with fail
    refine hism.mono ?_
    rintro e w3 ⟨rfl, hb3⟩
    have HB3 := Lib.hid (HBA.out.trans (hb3.mono (HLO.out _ HBA.out).2))
    obtain ⟨z0, z1, z2, z3⟩ := HCE.out _ HB3.out
    have HF := Lib.hid (HFIN.out _ HB3.out)
    clear hism hb3 hgl HFIN HCE HBX HLO HGL
    go_wp2
    refine bodyPost_ret (results_cell_rowT (by rfl) _ _ w.heap.size 26 _ (0, 0) _ rfl (HF.out _ _).1 Tryz.underlying26 rfl shelf_size) rfl ?_
    exact ⟨_, by rw [HE.out]; rfl, by rw [HE.out]; exact (HF.out _ _).2.1 _ [] (ownG_nil _ _ _), (HF.out _ _).2.2⟩
end Go.Proofs.YtfoncmeplofedaqGreatDoor
