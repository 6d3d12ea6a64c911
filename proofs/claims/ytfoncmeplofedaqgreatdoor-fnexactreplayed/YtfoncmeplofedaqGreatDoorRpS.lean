/- CONTRACT: the specification's Replayed. -/
import Derived.Test.YtfoncmeplofedaqGreatDoorBuna
import Derived.Test.YtfoncmeplofedaqGreatDoorShP
import Derived.Test.YtfoncmeplofedaqGreatDoorNtm
import Derived.Test.YtfoncmeplofedaqGreatDoorJouS
import Derived.Test.YtfoncmeplofedaqGreatDoorReadNums
import Derived.Test.YtfoncmeplofedaqGreatDoorShT
namespace Go.Proofs.YtfoncmeplofedaqGreatDoor
open Go.RowKit
set_option linter.unusedVariables false
set_option maxHeartbeats 8000000 in
set_option maxRecDepth 100000 in
theorem specReplayed_any (va : Value) (L : List Nt) (w : World) (ha : RdG ntf 3 w va L) (hl : L.length ≤ 1048576) (hs : ∀ p ∈ L, p.2.2.size ≤ 1048576) :
    Calls Tryz.prog 5 #[va] w fun e w' => ∃ v, e = .returned (.tuple #[.agg #[.int .i64 (replayedT L).1.1, v], .int .i64 (replayedT L).2]) ∧ OwnI w' w.heap.size v (replayedT L).1.2 ∧ Below w.heap.size w w' := by
  obtain ⟨W1, hW1⟩ : ∃ W1, W1 = (w.alloc (.cells #[.int .i64 0, .slice none 0 0] 26)).alloc (.cells #[.int .i64 0, .slice none 0 0] 26) := ⟨_, rfl⟩
  have hb1 : Below w.heap.size w W1 := by rw [hW1]; exact ((Below.refl w.heap.size w).alloc (Nat.le_refl _) _).alloc (by rw [World.size_alloc]; omega) _
  have hs1 : W1.heap.size = w.heap.size + 1 + 1 := by rw [hW1, World.size_alloc, World.size_alloc]
  have hbox : W1.heap[w.heap.size]? = some (.cells #[.int .i64 0, .slice none 0 0] 26 (0, 0)) := by
    rw [hW1, Below.heap_alloc _ _ _ (by rw [World.size_alloc]; omega)]; exact heap_alloc_new w _
  have hsh : ShB (w.heap.size + 1) (w.heap.size + 1) 0 (.slice none 0 0) [] W1 := by
    refine ⟨?_, ownG_nil _ _ _, Nat.le_refl _, by intro h; cases h⟩
    rw [hW1]
    have e := heap_alloc_new (w.alloc (.cells #[.int .i64 0, .slice none 0 0] 26)) (.cells #[.int .i64 0, .slice none 0 0] 26)
    rw [World.size_alloc] at e
    exact e
  have HLO : Hid (∀ W, Below (w.heap.size + 1) W1 W → Below w.heap.size w W ∧ w.heap.size + 1 + 1 ≤ W.heap.size) := fun W h => ⟨hb1.trans (h.mono (by omega)), by have := h.size; omega⟩
  have HBX : Hid (∀ W, Below (w.heap.size + 1) W1 W → W.heap[w.heap.size]? = some (.cells #[.int .i64 0, .slice none 0 0] 26 (0, 0))) := fun W h => (h.block w.heap.size (by omega)).trans hbox
  have HCE : Hid (∀ W, Below (w.heap.size + 1) W1 W → W.cell? ⟨w.heap.size, 0, none⟩ = some (.int .i64 0) ∧ W.cell? ⟨w.heap.size, 1, none⟩ = some (.slice none 0 0) ∧ W.frozen? ⟨w.heap.size, 0, none⟩ = false ∧ W.frozen? ⟨w.heap.size, 1, none⟩ = false) := fun W h => by
    have e := HBX.out W h
    exact ⟨cell_of_row W _ 0 _ _ (0, 0) e, cell_of_row W _ 1 _ _ (0, 0) e, Lib.frozen_of_heap e 0, Lib.frozen_of_heap e 1⟩
  have HFIN : Hid (∀ W, Below (w.heap.size + 1) W1 W → ∀ k0 k1, ((W.setCell ⟨w.heap.size, 0, none⟩ k0).setCell ⟨w.heap.size, 1, none⟩ k1).heap[w.heap.size]? = some (.cells #[k0, k1] 26 (0, 0)) ∧ (∀ v L, OwnI W (w.heap.size + 1) v L → OwnI ((W.setCell ⟨w.heap.size, 0, none⟩ k0).setCell ⟨w.heap.size, 1, none⟩ k1) w.heap.size v L) ∧ Below w.heap.size w ((W.setCell ⟨w.heap.size, 0, none⟩ k0).setCell ⟨w.heap.size, 1, none⟩ k1)) := fun W h k0 k1 =>
    ⟨by simp [World.setCell, Array.getElem?_modify, HBX.out W h], fun v L ho => own_lower (own_setCell (own_setCell ho (p := ⟨w.heap.size, 0, none⟩) (by show w.heap.size < _; omega) _) (p := ⟨w.heap.size, 1, none⟩) (by show w.heap.size < _; omega) _) (by omega), ((HLO.out W h).1.setCell (p := ⟨w.heap.size, 0, none⟩) (Nat.le_refl _) _).setCell (p := ⟨w.heap.size, 1, none⟩) (Nat.le_refl _) _⟩
  have HRD : Hid (∀ k, k < L.length → (∃ b off cap, va = .slice (some ⟨b, off, none⟩) L.length cap ∧ ∀ W, Below w.heap.size w W → W.cell? ⟨b, off + k * 3, none⟩ = some (.int .i64 (L.getD k nt0).1) ∧ W.cell? ⟨b, off + k * 3 + 1, none⟩ = some (.int .i64 (L.getD k nt0).2.1) ∧ W.cell? ⟨b, off + k * 3 + 2, none⟩ = some (.string (L.getD k nt0).2.2)) ∧ (L.getD k nt0).2.2.size ≤ 1048576) := fun k hk => by
    refine ⟨?_, ?_⟩
    · rcases rdG_cases ha with ⟨h0, _⟩ | ⟨_, b, off, cap, hv, hcap, hlt, hc⟩
      · rw [h0] at hk; simp at hk
      · exact ⟨b, off, cap, hv, fun W hW => nt_cells (cellsG_below hc hlt hW) hk⟩
    · rw [getD_nt hk]; exact hs _ (List.getElem_mem hk)
  obtain ⟨ao, cap, hva⟩ := rdG_shape ha
  obtain ⟨n, hn⟩ : ∃ n, n = L.length := ⟨_, rfl⟩
  have HN := Lib.hid hn
  rw [← hn] at hva hl HRD
  have HSH := Lib.hid hsh
  have HW := Lib.hid hW1
  clear ha hs hn hsh hW1 hbox hb1 hs1
  subst hva
  go_enter Tryz.func5, Tryz.ntmps5
  go_wp2
  rw [← HW.out]
  go_loopw [5, 6] (fun cv i wr => ∃ (k : Nat) (r c : Int) (l : List It) (v : Value), k ≤ n ∧ i = .int .i64 (k : Int) ∧ cv = .int .i64 c ∧ (0 ≤ c ∧ c ≤ k) ∧ Hid (ShB (w.heap.size + 1) (w.heap.size + 1) r v l wr) ∧ Hid (Below (w.heap.size + 1) W1 wr) ∧ Hid (playN L 0 [] 0 = playN (L.drop k) r l c) ∧ Hid (shelfB r l = true)) (fun _ i _ => n - (intOf i).toNat)
  case atStart => exact ⟨0, 0, 0, [], _, Nat.zero_le _, rfl, rfl, ⟨by decide, by decide⟩, HSH.out, Below.refl _ _, by show _ = _; rw [List.drop_zero], right_empty⟩
  case round =>
    rename World => w1
    obtain ⟨k, r, c, l, v, hk, rfl, rfl, hc, HS, HB, HP, HR⟩ := hrel
    by_cases hkn : k < n
    · obtain ⟨⟨b, off, cap9, hv9, hcl⟩, hsz⟩ := HRD.out k hkn
      simp only [Value.slice.injEq] at hv9
      obtain ⟨rfl, _, rfl⟩ := hv9
      have hdrop : L.drop k = (L.getD k nt0) :: L.drop (k + 1) := by
        rw [getD_nt (by have := HN.out; omega)]
        exact List.drop_eq_getElem_cons (by have := HN.out; omega)
      obtain ⟨p, hp⟩ : ∃ p, p = L.getD k nt0 := ⟨_, rfl⟩
      rw [← hp] at hcl hsz hdrop
      obtain ⟨p1, p2, p3⟩ := p
      have HCL := Lib.hid hcl
      have hok := specNoteOk_any p1 p2 p3 w1 hsz
      obtain ⟨d0, d1, d2⟩ := hcl w1 (HLO.out _ HB.out).1
      clear hp hcl
      have hkI : (k : Int) < (n : Int) := by omega
      cases hnb : noteB (p1, p2, p3) with
      | false =>
        have HE : Hid (replayedT L = ((0, []), 0)) := replayed_none (by rw [HP.out, hdrop, playN_bad hnb])
        rw [hnb] at hok
        clear hnb hdrop
        go_wp2_with fail
        refine hok.mono ?_
        rintro e w2 ⟨rfl, hb2⟩
        have HB2 := Lib.hid (HB.out.trans (hb2.mono (by have := (HLO.out _ HB.out).2; omega)))
        obtain ⟨z0, z1, z2, z3⟩ := HCE.out _ HB2.out
        have HF := Lib.hid (HFIN.out _ HB2.out)
        clear hok hb2 d0 d1 d2
        go_wp2
        refine bodyPost_ret (results_cell_rowT (by rfl) _ _ w.heap.size 26 _ (0, 0) _ rfl (HF.out _ _).1 Tryz.underlying26 rfl shelf_size) rfl ?_
        exact ⟨_, by rw [HE.out]; rfl, by rw [HE.out]; exact (HF.out _ _).2.1 _ [] (ownG_nil _ _ _), (HF.out _ _).2.2⟩
      | true =>
        have HE : Hid (playN L 0 [] 0 = playN (L.drop (k + 1)) (onT (p1, p2, p3) r l).1.1 (onT (p1, p2, p3) r l).1.2 (if (onT (p1, p2, p3) r l).2 = true then c + 1 else c)) := by show _ = _; rw [HP.out, hdrop, playN_ok hnb]
        have HRT : Hid (shelfB (onT (p1, p2, p3) r l).1.1 (onT (p1, p2, p3) r l).1.2 = true) := on_right hnb HR.out
        obtain ⟨hk1, hp2, hp3⟩ := noteB_parts hnb
        rw [hnb] at hok
        clear hnb hdrop
        rcases hk1 with rfl | rfl
        · rw [onT_lay] at HE HRT
          have hcd := code_low (t := p3) (st := p2) (shelfB_iff.1 HR.out).2.1
          have HLA : Hid (∀ W, ShB (w.heap.size + 1) (w.heap.size + 1) r v l W → Calls Tryz.prog 15 #[.pointer (some ⟨w.heap.size + 1, 0, none⟩), .string p3, .int .i64 p2] W fun e w' => e = .returned (.tuple #[.int .i64 (laidN l p3 p2).2.1, .int .i64 (laidN l p3 p2).2.2]) ∧ (∃ v', ShB (w.heap.size + 1) (w.heap.size + 1) r v' (laidN l p3 p2).1 w') ∧ Below (w.heap.size + 1) W w') := fun W h => l13Laid_any (w.heap.size + 1) (w.heap.size + 1) r v l p3 p2 W h (shelfB_iff.1 HR.out).2.1 hsz
          rw [← hcd] at HE
          generalize (laidN l p3 p2).1 = l9 at HE HRT HLA
          generalize (laidN l p3 p2).2.1 = d9 at HLA
          generalize (laidN l p3 p2).2.2 = c9 at HE HLA
          clear hcd
          go_wp2_with fail
          refine hok.mono ?_
          rintro e w2 ⟨rfl, hb2⟩
          have HB2 := Lib.hid (HB.out.trans (hb2.mono (by have := (HLO.out _ HB.out).2; omega)))
          have HS2 := Lib.hid (HS.out.below hb2)
          obtain ⟨t0, _, _⟩ := HCL.out w2 (HLO.out _ HB2.out).1
          obtain ⟨_, t1, t2⟩ := HCL.out w2.drew (HLO.out _ HB2.out).1.drew
          have HS2D := Lib.hid (HS2.out.below (Below.refl w2.heap.size w2).drew)
          clear hok hb2 d0 d1 d2
          go_wp2
          go_region_held (fun W : World => W.cell? ⟨b, off + k * 3 + 1, none⟩ = some (.int .i64 p2) ∧ W.cell? ⟨b, off + k * 3 + 2, none⟩ = some (.string p3))
            (first | exact ⟨t1, t2⟩ | exact hk3)
            (first | (go_at_call 15; refine (HLA.out _ HS2D.out).mono ?_; rintro e w3 ⟨rfl, ⟨v3, hs3⟩, hb3⟩; have hk3 := (HCL.out w3 (HLO.out _ (HB2.out.drew.trans hb3)).1).2))
          all_goals
            have HS3 := Lib.hid hs3
            have HB3 := Lib.hid (HB2.out.drew.trans hb3)
            clear hs3 hb3 t0 t1 t2
            by_cases h9 : c9 ≤ 1
            · have HE2 : Hid (playN L 0 [] 0 = playN (L.drop (k + 1)) r l9 (c + 1)) := by have h8 := HE.out; rw [decide_eq_true h9] at h8; exact h8
              go_wp2
              go_roundw
              case rel => exact ⟨k + 1, r, c + 1, l9, v3, by omega, by go_num, by go_num, ⟨by omega, by omega⟩, HS3, HB3, HE2, HRT⟩
              case measure => simp [intOf]; omega
            · have HE2 : Hid (playN L 0 [] 0 = playN (L.drop (k + 1)) r l9 c) := by have h8 := HE.out; rw [decide_eq_false h9] at h8; exact h8
              go_wp2
              go_roundw
              case rel => exact ⟨k + 1, r, c, l9, v3, by omega, by go_num, by go_num, ⟨by omega, by omega⟩, HS3, HB3, HE2, HRT⟩
              case measure => simp [intOf]; omega
        · rw [onT_sweep] at HE HRT
          have hrn := Lib.hid (fun W => specReadNumbers_any p3 W (by omega))
          have hml : (marksL p3).length ≤ 200 := by
            unfold marksL
            cases hq : readNums (byts p3) with
            | none => exact Nat.zero_le _
            | some ms => exact (read_back (byts_bytes p3) hq).2.1
          have hl3 := shelfB_len HR.out
          have HSW : Hid (∀ W vm, ShB (w.heap.size + 1) (w.heap.size + 1) r v l W → Rd W vm (cellsInt64S (marksL p3)) → Calls Tryz.prog 17 #[.pointer (some ⟨w.heap.size + 1, 0, none⟩), .int .i64 p2, vm] W fun e w' => e = .returned (.int .i64 (if p2 < r ∨ 100000 < p2 then -1 else (l.length : Int) - ((sweptL p2 (marksL p3) l).length : Int))) ∧ (∃ v', ShB (w.heap.size + 1) (w.heap.size + 1) (if p2 < r ∨ 100000 < p2 then r else p2) v' (if p2 < r ∨ 100000 < p2 then l else sweptL p2 (marksL p3) l) w') ∧ Below (w.heap.size + 1) W w') := fun W vm h hm => l13Swept_any (w.heap.size + 1) (w.heap.size + 1) r v l p2 vm (marksL p3) W h hm (by omega) (by omega)
          obtain ⟨n9, hn9⟩ : ∃ n9, n9 = (if p2 < r ∨ 100000 < p2 then -1 else (l.length : Int) - ((sweptL p2 (marksL p3) l).length : Int)) := ⟨_, rfl⟩
          have hdid : (!decide (p2 < r ∨ 100000 < p2)) = decide (0 ≤ n9) := by
            have h9 := swept_len p2 (marksL p3) l
            by_cases hc9 : p2 < r ∨ 100000 < p2
            · rw [decide_eq_true hc9, hn9, if_pos hc9]; rfl
            · rw [decide_eq_false hc9, hn9, if_neg hc9, decide_eq_true (by omega)]; rfl
          rw [hdid] at HE
          rw [← hn9] at HSW
          generalize (if p2 < r ∨ 100000 < p2 then r else p2) = r9 at HE HRT HSW
          generalize (if p2 < r ∨ 100000 < p2 then l else sweptL p2 (marksL p3) l) = l9 at HE HRT HSW
          have HML : Hid ((readNums (byts p3)).getD [] = marksL p3) := rfl
          generalize marksL p3 = ms at HSW HML hml
          clear hn9 hdid hl3
          go_wp2_with fail
          refine hok.mono ?_
          rintro e w2 ⟨rfl, hb2⟩
          have HB2 := Lib.hid (HB.out.trans (hb2.mono (by have := (HLO.out _ HB.out).2; omega)))
          have HS2 := Lib.hid (HS.out.below hb2)
          obtain ⟨t0, t1, t2⟩ := HCL.out w2 (HLO.out _ HB2.out).1
          have hrn2 := hrn.out w2
          clear hok hb2 d0 d1 d2 hrn
          go_wp2_with fail
          refine hrn2.mono ?_
          rintro e w3 ⟨vm, rfl, hom, hb3⟩
          rw [HML.out] at hom
          have HB3 := Lib.hid (HB2.out.trans (hb3.mono (by have := (HLO.out _ HB2.out).2; omega)))
          have HS3 := Lib.hid (HS2.out.below hb3)
          obtain ⟨q0, q1, q2⟩ := HCL.out w3 (HLO.out _ HB3.out).1
          have hsw := HSW.out w3 vm HS3.out (rd_owns hom)
          obtain ⟨am, cm, hvm⟩ := owns_slice hom
          generalize ms.length = nm at hvm hml
          subst hvm
          clear hrn2 hom hb3 HSW t0 t1 t2
          go_wp2_with fail
          refine hsw.mono ?_
          rintro e w4 ⟨rfl, ⟨v4, hs4⟩, hb4⟩
          have HS4 := Lib.hid hs4
          have HB4 := Lib.hid (HB3.out.trans hb4)
          clear hsw hs4 hb4 q0 q1 q2
          by_cases h9 : 0 ≤ n9
          · have HE2 : Hid (playN L 0 [] 0 = playN (L.drop (k + 1)) r9 l9 (c + 1)) := by have h8 := HE.out; rw [decide_eq_true h9] at h8; exact h8
            go_wp2
            go_roundw
            case rel => exact ⟨k + 1, r9, c + 1, l9, v4, by omega, by go_num, by go_num, ⟨by omega, by omega⟩, HS4, HB4, HE2, HRT⟩
            case measure => simp [intOf]; omega
          · have HE2 : Hid (playN L 0 [] 0 = playN (L.drop (k + 1)) r9 l9 c) := by have h8 := HE.out; rw [decide_eq_false h9] at h8; exact h8
            go_wp2
            go_roundw
            case rel => exact ⟨k + 1, r9, c, l9, v4, by omega, by go_num, by go_num, ⟨by omega, by omega⟩, HS4, HB4, HE2, HRT⟩
            case measure => simp [intOf]; omega
    · have HE : Hid (replayedT L = ((r, syncL l), c)) := replayed_some (by
        rw [HP.out, List.drop_of_length_le (by have := HN.out; omega)]
        rfl)
      have hkI : ¬ (k : Int) < (n : Int) := by omega
      have hsy := l13Synced_any (w.heap.size + 1) (w.heap.size + 1) r v l w1 HS.out (by have := shelfB_len HR.out; omega)
      go_wp2_with fail
      refine hsy.mono ?_
      rintro e w2 ⟨rfl, hs2, hb2⟩
      have HS2 := Lib.hid hs2
      have HB2 := Lib.hid (HB.out.trans hb2)
      have t0 := hs2.c0
      have t1 := hs2.c1
      obtain ⟨z0, z1, z2, z3⟩ := HCE.out _ HB2.out
      have HF := Lib.hid (HFIN.out _ HB2.out)
      obtain ⟨bo, bc, hvb⟩ := ownG_shape HS2.out.own
      generalize (syncL l).length = ns at hvb
      subst hvb
      clear hsy hs2 hb2
      go_wp2
      refine bodyPost_ret (results_cell_rowT (by rfl) _ _ w.heap.size 26 _ (0, 0) _ rfl (HF.out _ _).1 Tryz.underlying26 rfl shelf_size) rfl ?_
      exact ⟨_, by rw [HE.out]; rfl, by rw [HE.out]; exact (HF.out _ _).2.1 _ _ HS2.out.own, (HF.out _ _).2.2⟩
end Go.Proofs.YtfoncmeplofedaqGreatDoor
