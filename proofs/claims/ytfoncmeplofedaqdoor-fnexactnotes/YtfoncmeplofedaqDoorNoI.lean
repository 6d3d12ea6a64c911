/- CONTRACT: the program's noteOf. -/
import Derived.Test.YtfoncmeplofedaqDoorJouI
import Derived.Test.YtfoncmeplofedaqDoorJouP
import Derived.Test.YtfoncmeplofedaqDoorJouS
import Derived.Test.YtfoncmeplofedaqDoorReadTexts2
import Derived.Test.YtfoncmeplofedaqDoorResC
import Derived.Test.YtfoncmeplofedaqDoorNtBx
import Derived.Lib.Hide
import Derived.Deep.Cut
import Derived.Deep.CutRange
import Derived.Deep.RegionLaw
import Derived.Deep.RegionHeld
namespace Go.Proofs.YtfoncmeplofedaqDoor
open Go.RowKit
set_option linter.unusedVariables false
set_option maxHeartbeats 4000000 in
set_option maxRecDepth 100000 in
theorem noteOf_any (b : ByteArray) (w : World) (hb : b.size ≤ 1048576) :
    Calls Tryd.prog 19 #[.string b] w fun e w' => e = .returned (.tuple #[ntV (bodyV b).1, .bool (bodyV b).2]) ∧ Below w.heap.size w w' := by
  obtain ⟨W1, hW1⟩ : ∃ W1, W1 = w.alloc (.cells #[.int .i64 0, .int .i64 0, .string ⟨#[]⟩] 29) := ⟨_, rfl⟩
  have hb1 : Below w.heap.size w W1 := by rw [hW1]; exact (Below.refl w.heap.size w).alloc (Nat.le_refl _) _
  have hs1 : W1.heap.size = w.heap.size + 1 := by rw [hW1, World.size_alloc]
  have hbox : W1.heap[w.heap.size]? = some (.cells (ntC nt0) 29 (0, 0)) := by rw [hW1]; exact heap_alloc_new w _
  have HBX : Hid (∀ W, Below (w.heap.size + 1) W1 W → W.heap[w.heap.size]? = some (.cells (ntC nt0) 29 (0, 0))) := fun W h => (h.block w.heap.size (by omega)).trans hbox
  have HLO : Hid (∀ W, Below (w.heap.size + 1) W1 W → Below w.heap.size w W ∧ w.heap.size + 1 ≤ W.heap.size) := fun W h => ⟨hb1.trans (h.mono (by omega)), by have := h.size; omega⟩
  have hrt := implReadTexts_any b W1 hb
  have x0 := box_cells (HBX.out _ (Below.refl _ _))
  have HW := Lib.hid hW1
  rw [hW1] at hrt x0
  obtain ⟨x0, x1, x2, f0, f1, f2⟩ := x0
  have HRT : Hid (∀ L, (readTexts b).getD [] = L → L.length ≠ 2 → bodyV b = (nt0, false)) := fun L h1 h2 => by
    unfold bodyV
    rw [bodyN_texts (fun x t h => h2 (by rw [← h1, h]; rfl))]
  by_cases hlen : ((readTexts b).getD []).length = 2
  rotate_left
  · have e : bodyV b = (nt0, false) := HRT.out _ rfl hlen
    rw [e]
    generalize hL : (readTexts b).getD [] = L at hlen
    have HL := Lib.hid hL
    clear e HRT hbox hs1 hb1 hW1 hb
    go_enter Tryd.func19, Tryd.ntmps19
    go_wp2_with fail
    refine hrt.mono ?_
    rintro e w2 ⟨v, rfl, ho, hb2⟩
    have HB2 : Hid (Below (w.heap.size + 1) W1 w2) := by rw [World.size_alloc] at hb2; rw [HW.out]; exact hb2
    rw [HL.out] at ho
    obtain ⟨ao, cap, hv⟩ := owns_slice ho
    obtain ⟨y0, y1, y2, g0, g1, g2⟩ := box_cells (HBX.out w2 HB2.out)
    generalize L.length = n at hv hlen
    subst hv
    have hne : ((n : Int) == 2) = false := by simp; omega
    have hne2 : ¬ (n : Int) = 2 := by omega
    have HF := Lib.hid (fun k0 k1 k2 => box_set (HBX.out w2 HB2.out) rfl k0 k1 k2)
    have HFB := Lib.hid (fun k0 k1 k2 => box_below (HLO.out w2 HB2.out).1 (Nat.le_refl _) k0 k1 k2)
    clear hrt ho hb2 x0 x1 x2 f0 f1 f2 HBX HLO hlen
    go_wp2
    refine bodyPost_ret (results_cell_rowT (by rfl) _ _ w.heap.size 29 _ (0, 0) _ rfl (HF.out _ _ _) Tryd.underlying29 rfl note_size) rfl ?_
    exact ⟨rfl, HFB.out _ _ _⟩
  obtain ⟨x, t, hxt⟩ : ∃ x t, readTexts b = some [x, t] := by
    cases hr : readTexts b with
    | none => rw [hr] at hlen; simp at hlen
    | some l =>
      rw [hr] at hlen
      match l, hlen with
      | [x, t], _ => exact ⟨x, t, rfl⟩
  have hxs := (read_backT hxt).2.2.1 x (by simp)
  have hts := (read_backT hxt).2.2.1 t (by simp)
  have HXT : Hid ((readTexts b).getD [] = [x, t]) := by show _ = _; rw [hxt]; rfl
  have HRN := Lib.hid (fun W => implReadNumbers_any x W (by omega))
  have HNM : Hid (∀ L, (readNums (byts x)).getD [] = L → L.length ≠ 2 → bodyV b = (nt0, false)) := fun L h1 h2 => by
    unfold bodyV
    rw [bodyN_nums hxt (fun k a h => h2 (by rw [← h1, h]; rfl))]
  by_cases hln : ((readNums (byts x)).getD []).length = 2
  rotate_left
  · have e : bodyV b = (nt0, false) := HNM.out _ rfl hln
    rw [e]
    generalize hM : (readNums (byts x)).getD [] = M at hln
    have HM := Lib.hid hM
    clear e HRT hbox hs1 hb1 hW1 hb HNM hlen hM hxt hxs hts
    go_enter Tryd.func19, Tryd.ntmps19
    go_wp2_with fail
    refine hrt.mono ?_
    rintro e w2 ⟨v, rfl, ho, hb2⟩
    have HB2 : Hid (Below (w.heap.size + 1) W1 w2) := by rw [World.size_alloc] at hb2; rw [HW.out]; exact hb2
    rw [HXT.out] at ho
    obtain ⟨g1, cap1, hv, hg1, hcs⟩ := two_strs ho
    subst hv
    obtain ⟨c0, c1⟩ := hcs w2 (Below.refl _ _)
    have hrn := HRN.out w2
    clear hrt ho hb2 x0 x1 x2 f0 f1 f2 hcs HRN
    go_wp2_with fail
    refine hrn.mono ?_
    rintro e w3 ⟨v3, rfl, ho3, hb3⟩
    have HB3 : Hid (Below (w.heap.size + 1) W1 w3) := HB2.out.trans (hb3.mono (HLO.out w2 HB2.out).2)
    rw [HM.out] at ho3
    obtain ⟨ao, cap, hv⟩ := owns_slice ho3
    obtain ⟨y0, y1, y2, g0, g1, g2⟩ := box_cells (HBX.out w3 HB3.out)
    generalize M.length = n at hv hln
    subst hv
    have hne : ((n : Int) == 2) = false := by simp; omega
    have hne2 : ¬ (n : Int) = 2 := by omega
    have HF := Lib.hid (fun k0 k1 k2 => box_set (HBX.out w3 HB3.out) rfl k0 k1 k2)
    have HFB := Lib.hid (fun k0 k1 k2 => box_below (HLO.out w3 HB3.out).1 (Nat.le_refl _) k0 k1 k2)
    clear hrn ho3 hb3 c0 c1 HBX HLO hln
    go_wp2
    refine bodyPost_ret (results_cell_rowT (by rfl) _ _ w.heap.size 29 _ (0, 0) _ rfl (HF.out _ _ _) Tryd.underlying29 rfl note_size) rfl ?_
    exact ⟨rfl, HFB.out _ _ _⟩
  obtain ⟨k, a, hka⟩ : ∃ k a, readNums (byts x) = some [k, a] := by
    cases hr : readNums (byts x) with
    | none => rw [hr] at hln; simp at hln
    | some l =>
      rw [hr] at hln
      match l, hln with
      | [k, a], _ => exact ⟨k, a, rfl⟩
  have HKA : Hid ((readNums (byts x)).getD [] = [k, a]) := by show _ = _; rw [hka]; rfl
  have eB : bodyV b = ((k, a, t), noteB (k, a, t)) := by unfold bodyV; rw [bodyN_some hxt hka]
  rw [eB]
  have HOK := Lib.hid (fun W => implNoteOk_any k a t W (by omega))
  generalize noteB (k, a, t) = ok at HOK ⊢
  clear eB HRT hbox hs1 hb1 hW1 hb HNM hlen hxt hxs hts hka hln
  go_enter Tryd.func19, Tryd.ntmps19
  go_wp2_with fail
  refine hrt.mono ?_
  rintro e w2 ⟨v, rfl, ho, hb2⟩
  have HB2 : Hid (Below (w.heap.size + 1) W1 w2) := by rw [World.size_alloc] at hb2; rw [HW.out]; exact hb2
  rw [HXT.out] at ho
  obtain ⟨g1, cap1, hv, hg1, hcs⟩ := two_strs ho
  subst hv
  obtain ⟨c0, c1⟩ := hcs w2 (Below.refl _ _)
  have HCS := Lib.hid hcs
  have hrn := HRN.out w2
  clear hrt ho hb2 x0 x1 x2 f0 f1 f2 hcs HRN
  go_wp2_with fail
  refine hrn.mono ?_
  rintro e w3 ⟨v3, rfl, ho3, hb3⟩
  have HB3 : Hid (Below (w.heap.size + 1) W1 w3) := HB2.out.trans (hb3.mono (HLO.out w2 HB2.out).2)
  rw [HKA.out] at ho3
  obtain ⟨g2, cap2, hv, hg2, hct⟩ := two_ints ho3
  subst hv
  have HCT : Hid (∀ W, Below w3.heap.size w3 W → W.cell? ⟨g1, 1, none⟩ = some (.string t) ∧ W.cell? ⟨g2, 0, none⟩ = some (.int .i64 k) ∧ W.cell? ⟨g2, 1, none⟩ = some (.int .i64 a)) := fun W h => ⟨(HCS.out W (hb3.trans (h.mono hb3.size))).2, hct W h⟩
  obtain ⟨d0, d1, d2⟩ := HCT.out _ (Below.refl w3.heap.size w3)
  obtain ⟨e0, e1, e2⟩ := HCT.out _ ((Below.refl w3.heap.size w3).alloc (Nat.le_refl _) (.cells #[.int .i64 0, .int .i64 0, .string ⟨#[]⟩] 29))
  clear hrn ho3 hb3 c0 c1 hct HCS
  go_upto_region 7 with (fail)
  go_cut [8] from 29 to 38 (fun sv wx => sv = .pointer (some ⟨w3.heap.size, 0, none⟩) ∧ wx = (w3.alloc (.cells #[.int .i64 k, .int .i64 a, .string t] 29)).drew)
  case first =>
    go_region_law (fail)
    all_goals
      go_wp2_with fail
      go_meet
      exact ⟨rfl, rfl⟩
  case rest =>
    obtain ⟨rfl, hW5⟩ := hcut
    rename World => W5
    have HB5 : Hid (Below (w.heap.size + 1) W1 W5) := by rw [hW5]; exact (HB3.out.alloc (HLO.out w3 HB3.out).2 _).drew
    have HNB : Hid (w3.heap.size < W5.heap.size ∧ ∀ W, Below W5.heap.size W5 W → W.heap[w3.heap.size]? = some (.cells (ntC (k, a, t)) 29 (0, 0))) := by
      have h9 : W5.heap[w3.heap.size]? = some (.cells (ntC (k, a, t)) 29 (0, 0)) := by rw [hW5]; exact heap_alloc_new w3 _
      have h8 : w3.heap.size < W5.heap.size := by rw [hW5]; show _ < (w3.alloc _).heap.size; rw [World.size_alloc]; omega
      exact ⟨h8, fun W h => (h.block _ h8).trans h9⟩
    obtain ⟨n0, n1, n2, _, _, _⟩ := box_cells (HNB.out.2 _ (Below.refl W5.heap.size W5))
    clear hW5 d0 d1 d2 e0 e1 e2 HCT
    go_wp2
    go_region_with (go_at_call 33; refine (HOK.out _).mono ?_; rintro e w6 ⟨rfl, hb6⟩; have hb5 := (Below.refl W5.heap.size W5).drew.trans (hb6.mono (Nat.le_refl _)); obtain ⟨m0, m1, m2, _, _, _⟩ := box_cells (HNB.out.2 _ hb5); have HB6 : Hid (Below (w.heap.size + 1) W1 w6) := HB5.out.trans (hb5.mono (HLO.out W5 HB5.out).2); obtain ⟨y0, y1, y2, g0, g1, g2⟩ := box_cells (HBX.out w6 HB6.out))
    all_goals
      have HF := Lib.hid (fun k0 k1 k2 => box_set (HBX.out w6 HB6.out) rfl k0 k1 k2)
      have HFB := Lib.hid (fun k0 k1 k2 => box_below (HLO.out w6 HB6.out).1 (Nat.le_refl _) k0 k1 k2)
      clear HBX HLO hb6 hb5 HNB n0 n1 n2 m0 m1 m2
      go_wp2
      refine bodyPost_ret (results_cell_rowT (by rfl) _ _ w.heap.size 29 _ (0, 0) _ rfl (HF.out _ _ _) Tryd.underlying29 rfl note_size) rfl ?_
      exact ⟨rfl, HFB.out _ _ _⟩
end Go.Proofs.YtfoncmeplofedaqDoor
