/- CONTRACTS: the specification's shelves: l13Blobs. -/
import Derived.Test.YtfoncmeplofedaqGreatDoorBuna
import Derived.Test.YtfoncmeplofedaqGreatDoorBunb
import Derived.Test.YtfoncmeplofedaqGreatDoorIn1
namespace Go.Proofs.YtfoncmeplofedaqGreatDoor
open Go.RowKit
set_option linter.unusedVariables false
set_option maxHeartbeats 2000000 in
set_option maxRecDepth 100000 in
theorem l13Blobs_any (r : Int) (va : Value) (l : List It) (w : World) (ha : RdG itf 5 w va l) (hl : l.length ≤ 1048576) :
    Calls Tryz.prog 31 #[.agg #[.int .i64 r, va]] w fun e w' => ∃ v, e = .returned v ∧ w'.ownsRow w.heap.size 67 2 v l.length (blC (itBs l)) ∧ Below w.heap.size w w' := by
  obtain ⟨W1, hW1⟩ : ∃ W1, W1 = w.alloc (.cells #[.int .i64 r, va] 26) := ⟨_, rfl⟩
  have hb1 : Below w.heap.size w W1 := by rw [hW1]; exact (Below.refl w.heap.size w).alloc (Nat.le_refl _) _
  have hs1 : W1.heap.size = w.heap.size + 1 := by rw [hW1]; exact alloc_sizeI _ _
  have hbox : W1.heap[w.heap.size]? = some (.cells #[.int .i64 r, va] 26 (0, 0)) := by rw [hW1]; exact heap_alloc_new w _
  have HBOX : Hid (∀ wr, Below (w.heap.size + 1) W1 wr → wr.cell? ⟨w.heap.size, 1, none⟩ = some va) := fun wr h => cell_of_row wr w.heap.size 1 _ _ (0, 0) ((h.block _ (by omega)).trans hbox)
  have HLOW : Hid (∀ wr, Below (w.heap.size + 1) W1 wr → Below w.heap.size w wr) := fun wr h => hb1.trans (h.mono (by omega))
  have hB0 := (Below.refl (w.heap.size + 1) W1).alloc (Nat.le_of_eq hs1.symm) (.cells #[] 67)
  have ho0 : (W1.alloc (.cells #[] 67)).ownsRow (w.heap.size + 1) 67 2 (.slice (some ⟨w.heap.size + 1, 0, none⟩) 0 0) 0 (blC []) := by
    rw [← hs1]
    exact World.ownsRow_lit (base := W1.heap.size) (e := 67) (size := 2) W1 #[] 0 (Nat.le_refl _) (Nat.zero_le _) rfl
  have hbox2 : (W1.alloc (.cells #[] 67)).cell? ⟨w.heap.size, 1, none⟩ = some va := HBOX.out _ hB0
  have HOE : Hid (∀ (v : Value) (w9 : World), w9.ownsRow (w.heap.size + 1) 67 2 v (itBs l).length (blC (itBs l)) → w9.ownsRow w.heap.size 67 2 v l.length (blC (itBs l))) := fun v w9 h => by
    rw [show (itBs l).length = l.length from List.length_map _] at h
    exact own_lower h (by omega)
  rcases rdG_cases ha with ⟨h0, ao, cap, rfl⟩ | ⟨hp, b, off, cap, rfl, _, hlt, hc⟩
  · subst h0
    rw [hW1] at hB0 ho0 HLOW hbox2
    clear hbox HBOX hb1
    go_enter Tryz.func31, Tryz.ntmps31
    go_wp2
    refine wp_loop_rounds 1 ?_
    rw [rounds_succ]
    go_wp2
    go_ret
    exact ⟨_, rfl, HOE.out _ _ ho0, HLOW.out _ hB0⟩
  have HA := Lib.hid hc
  have HF : Hid (∀ k, k < l.length → itBs (l.take (k + 1)) = itBs (l.take k) ++ [itB (l.getD k it0)]) := fun k hk => by
    unfold itBs
    rw [List.take_succ_eq_append_getElem hk, List.map_append, getD_it hk]; rfl
  have HFL : Hid (∀ k, (itBs (l.take k)).length ≤ k) := fun k => by rw [show (itBs (l.take k)).length = (l.take k).length from List.length_map _]; exact List.length_take_le _ _
  have HFE : Hid (itBs l = itBs (l.take l.length)) := by show _ = _; rw [List.take_length]
  have HF0 : Hid (itBs (l.take 0) = []) := rfl
  have HCE : Hid (∀ k wr, k < l.length → Below (w.heap.size + 1) W1 wr → wr.cell? ⟨b, off + k * 5, none⟩ = some (.int .i64 (itB (l.getD k it0)).1) ∧ wr.cell? ⟨b, off + k * 5 + 1, none⟩ = some (.string (itB (l.getD k it0)).2)) := fun k wr hk h => by
    have := it_cells (cellsG_below hc hlt (HLOW.out wr h)) hk
    exact ⟨this.1, this.2.1⟩
  generalize itBs l = R at HFE HOE ⊢
  obtain ⟨F, hF⟩ : ∃ F : Nat → List Bl, F = fun k => itBs (l.take k) := ⟨_, rfl⟩
  have hF' : ∀ k, itBs (l.take k) = F k := fun k => by rw [hF]
  simp only [hF'] at HF HFL HFE HF0
  obtain ⟨n, hn⟩ : ∃ n, n = l.length := ⟨_, rfl⟩
  rw [← hn] at hp hl HF HFE HCE HOE hW1 hbox2 HBOX ⊢
  have HW := Lib.hid hW1
  have HBX := HBOX
  clear hc hn hF hF' HA ha hbox hb1 HBOX
  have HSZ : Hid (∀ wr, Below (w.heap.size + 1) W1 wr → w.heap.size + 1 ≤ wr.heap.size) := fun wr h => by have := h.size; omega
  rw [hW1] at hB0 ho0 hbox2
  clear hW1
  have HB0 := Lib.hid hB0
  clear hB0
  go_enter Tryz.func31, Tryz.ntmps31
  go_wp2
  go_loopw [3, 4] (fun v i wr => ∃ k : Nat, k ≤ n ∧ i = .int .i64 k ∧ wr.ownsRow (w.heap.size + 1) 67 2 v (F k).length (blC (F k)) ∧ Hid (Below (w.heap.size + 1) W1 wr) ∧ wr.cell? ⟨w.heap.size, 1, none⟩ = some (.slice (some ⟨b, off, none⟩) n cap)) (fun _ i _ => n - (intOf i).toNat)
  case atStart => exact ⟨0, Nat.zero_le _, rfl, by rw [HF0.out]; exact ho0, by rw [HW.out]; exact HB0.out, hbox2⟩
  case round =>
    obtain ⟨k, hk, rfl, ho, hb, hx⟩ := hrel
    clear ho0 hbox2
    by_cases hltk : k < n
    focus
      obtain ⟨d0, d1⟩ := HCE.out k _ hltk hb.out
      have HFk : Hid (F (k + 1) = F k ++ [((l.getD k it0).1, (l.getD k it0).2.1)]) := HF.out k hltk
      have hfl := HFL.out k
      have hsz := HSZ.out _ hb.out
      obtain ⟨x1, h1⟩ : ∃ x, x = (l.getD k it0).1 := ⟨_, rfl⟩
      obtain ⟨x2, h2⟩ : ∃ x, x = (l.getD k it0).2.1 := ⟨_, rfl⟩
      rw [← h1] at d0 HFk
      rw [← h2] at d1 HFk
      clear h1 h2
      obtain ⟨acc, hacc⟩ : ∃ acc, acc = F k := ⟨_, rfl⟩
      rw [← hacc] at ho HFk hfl
      clear hacc
      go_wp2_with (at_builtin; refine wpList_append_blobs rfl _ _ rfl (w.heap.size + 1) _ acc [(x1, x2)] _ rfl rfl (ho.alloc _) (rdB_one _ (x1, x2) 67) (by rw [List.length_singleton]; omega) (by rw [World.size_alloc]; omega) ?_)
      intro v3 w3 ho3 hg3
      have hb3 : Hid (Below (w.heap.size + 1) W1 w3) := (hb.out.alloc hsz _).grown hg3 (by simp; omega) (fun k hk => (ho.lt k hk).1)
      have ho4 : w3.ownsRow (w.heap.size + 1) 67 2 v3 (F (k + 1)).length (blC (F (k + 1))) := by
        rw [HFk.out, List.length_append]
        exact ho3
      have hx3 := HBX.out _ hb3.out
      clear ho3 hg3 ho hb d0 d1 hx
      go_wp2
      go_roundw
      case rel => exact ⟨k + 1, by omega, by go_num, ho4, hb3, hx3⟩
      case measure => simp [intOf]; omega
    obtain rfl : k = n := by omega
    rw [← HFE.out] at ho
    have hO := HOE.out _ _ ho
    go_wp2
    go_ret
    exact ⟨_, rfl, hO, HLOW.out _ hb.out⟩
end Go.Proofs.YtfoncmeplofedaqGreatDoor
