/- CONTRACT: the specification's l14Note. -/
import Derived.Test.YtfoncmeplofedaqDoorJouT
import Derived.Test.YtfoncmeplofedaqDoorJouP
import Derived.Test.YtfoncmeplofedaqDoorNtBx
import Derived.Test.YtfoncmeplofedaqDoorReadTexts
import Derived.Test.YtfoncmeplofedaqDoorReadNums
import Derived.Test.YtfoncmeplofedaqDoorResC
import Derived.Deep.Cut
import Derived.Deep.CutRange
import Derived.Deep.RegionLaw
import Derived.Deep.RegionHeld
namespace Go.Proofs.YtfoncmeplofedaqDoor
open Go.RowKit
set_option linter.unusedVariables false
/-- what l14Note answers -/
def noteV (d : ByteArray) : Nt × Nat := (noteT d).getD (nt0, 0)
theorem noteV_rd {d : ByteArray} (h : rd (byts d) = none) : noteV d = (nt0, 0) := by unfold noteV noteT; rw [h]; rfl
theorem noteV_short {d : ByteArray} {n k : Nat} (h : rd (byts d) = some (n, k)) (hs : d.size - k < n) : noteV d = (nt0, 0) := by unfold noteV noteT; rw [h]; simp only; rw [if_pos hs]; rfl
theorem noteV_body {d : ByteArray} {n k : Nat} (h : rd (byts d) = some (n, k)) (hs : ¬ d.size - k < n) (hb : bodyN (d.extract k (k + n)) = none) : noteV d = (nt0, 0) := by
  unfold noteV noteT; rw [h]; simp only; rw [if_neg hs, headT_body, hb]; rfl
theorem noteV_miss {d : ByteArray} {n k : Nat} {p : Nt} (h : rd (byts d) = some (n, k)) (hs : ¬ d.size - k < n) (hb : bodyN (d.extract k (k + n)) = some p) (hc : ¬ ((showT p).size ≠ 0 ∧ (showT p).size ≤ d.size ∧ d.extract 0 (showT p).size = showT p)) : noteV d = (nt0, 0) := by
  unfold noteV noteT; rw [h]; simp only; rw [if_neg hs, headT_body, hb]; simp only; rw [if_neg hc]; rfl
theorem noteV_hit {d : ByteArray} {n k : Nat} {p : Nt} (h : rd (byts d) = some (n, k)) (hs : ¬ d.size - k < n) (hb : bodyN (d.extract k (k + n)) = some p) (hc : (showT p).size ≠ 0 ∧ (showT p).size ≤ d.size ∧ d.extract 0 (showT p).size = showT p) : noteV d = (p, (showT p).size) := by
  unfold noteV noteT; rw [h]; simp only; rw [if_neg hs, headT_body, hb]; simp only; rw [if_pos hc]; rfl
theorem str_full14 {o : ByteArray} (h : o.size ≠ 0) : (o.toList == []) = false := by
  have hne : ¬ o.toList = [] := fun e => h (by
    have e2 : o = (⟨#[]⟩ : ByteArray) := same_of (a := o) (b := ⟨#[]⟩) (by rw [e]; simp)
    rw [e2]; rfl)
  simp [hne]
theorem size0 {o : ByteArray} (h : o.size = 0) : o = (⟨#[]⟩ : ByteArray) := ByteArray.ext (Array.eq_empty_of_size_eq_zero h)
theorem slice_head (s : ByteArray) (b : Nat) (hb : b ≤ s.size) {j : Int} (hj : j = (b : Int)) (w : World) :
    (Instr.slice 9 (.string s) none (some (.int .i64 j)) none).run Tryd.prog w = .ok (.string (s.extract 0 b)) w := by
  subst hj
  rw [run_slice_string_to_if _ 9 s .i64 _ Tryd.underlying9, if_pos ⟨by omega, by omega⟩, Int.toNat_natCast]
set_option maxHeartbeats 8000000 in
set_option maxRecDepth 100000 in
theorem l14Note_any (d : ByteArray) (w : World) (hd : d.size ≤ 1048576) :
    Calls Tryd.prog 9 #[.string d] w fun e w' => e = .returned (.tuple #[ntV (noteV d).1, .int .i64 ((noteV d).2 : Int)]) ∧ Below w.heap.size w w' := by
  obtain ⟨W1, hW1⟩ : ∃ W1, W1 = w.alloc (.cells #[.int .i64 0, .int .i64 0, .string ⟨#[]⟩] 29) := ⟨_, rfl⟩
  have hb1 : Below w.heap.size w W1 := by rw [hW1]; exact (Below.refl w.heap.size w).alloc (Nat.le_refl _) _
  have hs1 : W1.heap.size = w.heap.size + 1 := by rw [hW1, World.size_alloc]
  have hbox : W1.heap[w.heap.size]? = some (.cells (ntC nt0) 29 (0, 0)) := by rw [hW1]; exact heap_alloc_new w _
  have HBX : Hid (∀ W, Below (w.heap.size + 1) W1 W → W.heap[w.heap.size]? = some (.cells (ntC nt0) 29 (0, 0))) := fun W h => (h.block w.heap.size (by omega)).trans hbox
  have HLO : Hid (∀ W, Below (w.heap.size + 1) W1 W → Below w.heap.size w W ∧ w.heap.size + 1 ≤ W.heap.size) := fun W h => ⟨hb1.trans (h.mono (by omega)), by have := h.size; omega⟩
  have HF : Hid (∀ W, Below (w.heap.size + 1) W1 W → (∀ k0 k1 k2, (((W.setCell ⟨w.heap.size, 0, none⟩ k0).setCell ⟨w.heap.size, 1, none⟩ k1).setCell ⟨w.heap.size, 2, none⟩ k2).heap[w.heap.size]? = some (.cells #[k0, k1, k2] 29 (0, 0))) ∧ ∀ k0 k1 k2, Below w.heap.size w (((W.setCell ⟨w.heap.size, 0, none⟩ k0).setCell ⟨w.heap.size, 1, none⟩ k1).setCell ⟨w.heap.size, 2, none⟩ k2)) := fun W h =>
    ⟨fun k0 k1 k2 => box_set (HBX.out W h) rfl k0 k1 k2, fun k0 k1 k2 => box_below (HLO.out W h).1 (Nat.le_refl _) k0 k1 k2⟩
  have hcv := fun (w : World) (s : ByteArray) => run_bytes_of_string (P := Tryd.prog) w 9 44 5 s Tryd.underlying9 Tryd.underlying44 Tryd.underlying5
  obtain ⟨cap, hcap⟩ : ∃ cap, cap = grownCap W1 d.size 0 5 := ⟨_, rfl⟩
  have hge : d.size ≤ cap := by rw [hcap]; exact grownCap_ge W1 d.size 0 5
  have hcv1 := hcv W1 d
  rw [← hcap] at hcv1
  have hrd := rd_conv (w := W1) hge ((bytesRow d cap).size, (bytesRow d cap).size + 1)
  have hsp := specRead_any _ (byts d) _ hrd (byts_bytes d) (by rw [byts_len]; omega)
  have hbW : Below (w.heap.size + 1) W1 (W1.drew.alloc (.cells (bytesRow d cap) 5 ((bytesRow d cap).size, (bytesRow d cap).size + 1))) := by rw [← hs1]; exact (Below.refl _ _).drew.alloc (Nat.le_refl _) _
  have HBW : Hid (∀ w2, Below (W1.drew.alloc (.cells (bytesRow d cap) 5 ((bytesRow d cap).size, (bytesRow d cap).size + 1))).heap.size (W1.drew.alloc (.cells (bytesRow d cap) 5 ((bytesRow d cap).size, (bytesRow d cap).size + 1))) w2 → Below (w.heap.size + 1) W1 w2) := fun w2 h => hbW.trans (h.mono (by have := hbW.size; omega))
  have HW := Lib.hid hW1
  rw [hs1] at hcv1 hsp
  rw [hW1] at hcv1 hsp
  clear hcv hcap hrd hbW hbox hs1 hb1 hW1
  go_enter Tryd.func9, Tryd.ntmps9
  go_wp2_with fail
  refine hsp.mono ?_
  rintro e w2 ⟨rfl, hb2⟩
  have HB2 : Hid (Below (w.heap.size + 1) W1 w2) := HBW.out w2 (by rw [HW.out]; exact hb2)
  obtain ⟨y0, y1, y2, f0, f1, f2⟩ := box_cells (HBX.out w2 HB2.out)
  clear hsp hb2 hcv1 HBW
  cases hr : rd (byts d) with
  | none =>
    have HE : Hid (noteV d = (nt0, 0)) := noteV_rd hr
    rw [rdV_none hr]
    have HF2 := Lib.hid (HF.out w2 HB2.out)
    clear HBX HLO HF hr
    go_wp2
    refine bodyPost_ret (results_cell_rowT (by rfl) _ _ w.heap.size 29 _ (0, 0) _ rfl (HF2.out.1 _ _ _) Tryd.underlying29 rfl note_size) rfl ?_
    exact ⟨by rw [HE.out]; rfl, HF2.out.2 _ _ _⟩
  | some x =>
    obtain ⟨n, k⟩ := x
    rw [rdV_some hr]
    have hr0 : rdP (byts d) 0 = some (n, k) := hr
    obtain ⟨hk0, hkn, hnm⟩ := rdP_some hr0
    rw [byts_len] at hkn
    have hk0' : ((k : Int) == 0) = false := beq_eq_false_iff_ne.2 (by omega)
    by_cases hs : d.size - k < n
    · have HE : Hid (noteV d = (nt0, 0)) := noteV_short hr hs
      have hsI : (d.size : Int) - (k : Int) < (n : Int) := by omega
      have HF2 := Lib.hid (HF.out w2 HB2.out)
      clear HBX HLO HF hr hr0
      go_wp2
      refine bodyPost_ret (results_cell_rowT (by rfl) _ _ w.heap.size 29 _ (0, 0) _ rfl (HF2.out.1 _ _ _) Tryd.underlying29 rfl note_size) rfl ?_
      exact ⟨by rw [HE.out]; rfl, HF2.out.2 _ _ _⟩
    have hsI : ¬ (d.size : Int) - (k : Int) < (n : Int) := by omega
    obtain ⟨b, hb⟩ : ∃ b, b = d.extract k (k + n) := ⟨_, rfl⟩
    have hslc := slice_text d k (k + n) (by omega) (by omega) (i := (k : Int)) (j := (k : Int) + (n : Int)) rfl (by omega)
    rw [← hb] at hslc
    have hbs : b.size ≤ 1048576 := by rw [hb, ByteArray.size_extract]; omega
    have HNB : Hid (bodyN b = none → noteV d = (nt0, 0)) := fun h => noteV_body hr hs (by rw [← hb]; exact h)
    have HNM : Hid (∀ p, bodyN b = some p → ¬ ((showT p).size ≠ 0 ∧ (showT p).size ≤ d.size ∧ d.extract 0 (showT p).size = showT p) → noteV d = (nt0, 0)) := fun p h => noteV_miss hr hs (by rw [← hb]; exact h)
    have HNH : Hid (∀ p, bodyN b = some p → (showT p).size ≠ 0 ∧ (showT p).size ≤ d.size ∧ d.extract 0 (showT p).size = showT p → noteV d = (p, (showT p).size)) := fun p h => noteV_hit hr hs (by rw [← hb]; exact h)
    have hrt := specReadTexts_any b w2 hbs
    clear hr hr0 hs hb
    cases hq : readTexts b with
    | none =>
      have HQ := Lib.hid hq
      have HE : Hid (noteV d = (nt0, 0)) := HNB.out (bodyN_texts (fun x t h => by rw [hq] at h; cases h))
      clear hq
      go_wp2_with fail
      refine hrt.mono ?_
      rintro e w3 ⟨v, he, ho, hb3⟩
      rw [HQ.out] at he
      subst he
      have HB3 : Hid (Below (w.heap.size + 1) W1 w3) := HB2.out.trans (hb3.mono (HLO.out w2 HB2.out).2)
      obtain ⟨z0, z1, z2, g0, g1, g2⟩ := box_cells (HBX.out w3 HB3.out)
      have HF2 := Lib.hid (HF.out w3 HB3.out)
      clear HBX HLO HF hrt ho hb3 y0 y1 y2 f0 f1 f2
      go_wp2
      refine bodyPost_ret (results_cell_rowT (by rfl) _ _ w.heap.size 29 _ (0, 0) _ rfl (HF2.out.1 _ _ _) Tryd.underlying29 rfl note_size) rfl ?_
      exact ⟨by rw [HE.out]; rfl, HF2.out.2 _ _ _⟩
    | some L =>
      have HQ := Lib.hid hq
      by_cases hlen : L.length = 2
      rotate_left
      · have HE : Hid (noteV d = (nt0, 0)) := HNB.out (bodyN_texts (fun x t h => by rw [hq] at h; exact hlen (by rw [Option.some.inj h]; rfl)))
        clear hq
        go_wp2_with fail
        refine hrt.mono ?_
        rintro e w3 ⟨v, he, ho, hb3⟩
        rw [HQ.out] at he ho
        subst he
        have HB3 : Hid (Below (w.heap.size + 1) W1 w3) := HB2.out.trans (hb3.mono (HLO.out w2 HB2.out).2)
        obtain ⟨z0, z1, z2, g0, g1, g2⟩ := box_cells (HBX.out w3 HB3.out)
        have HF2 := Lib.hid (HF.out w3 HB3.out)
        obtain ⟨ao, cap9, hv⟩ := owns_slice ho
        have hlv : ((some L).getD [] : List ByteArray).length = L.length := rfl
        rw [hlv] at hv
        generalize L.length = nl at hv hlen
        subst hv
        have hne : ((nl : Int) == 2) = false := by simp; omega
        have hne2 : ¬ (nl : Int) = 2 := by omega
        clear HBX HLO HF hrt ho hb3 y0 y1 y2 f0 f1 f2 hlv hlen
        go_wp2
        refine bodyPost_ret (results_cell_rowT (by rfl) _ _ w.heap.size 29 _ (0, 0) _ rfl (HF2.out.1 _ _ _) Tryd.underlying29 rfl note_size) rfl ?_
        exact ⟨by rw [HE.out]; rfl, HF2.out.2 _ _ _⟩
      obtain ⟨x, t, rfl⟩ : ∃ x t, L = [x, t] := by
        match L, hlen with
        | [x, t], _ => exact ⟨x, t, rfl⟩
      have hxs := (read_backT hq).2.2.1 x (by simp)
      have hts := (read_backT hq).2.2.1 t (by simp)
      have HRN := Lib.hid (fun W => specReadNumbers_any x W (by omega))
      cases hm : readNums (byts x) with
      | none =>
        have HM := Lib.hid hm
        have HE : Hid (noteV d = (nt0, 0)) := HNB.out (bodyN_nums hq (fun k a h => by rw [hm] at h; cases h))
        clear hq hm hlen hxs hts
        go_wp2_with fail
        refine hrt.mono ?_
        rintro e w3 ⟨v, he, ho, hb3⟩
        rw [HQ.out] at he ho
        subst he
        have HB3 : Hid (Below (w.heap.size + 1) W1 w3) := HB2.out.trans (hb3.mono (HLO.out w2 HB2.out).2)
        obtain ⟨g1, cap1, hv, hg1, hcs⟩ := two_strs ho
        subst hv
        obtain ⟨c0, c1⟩ := hcs w3 (Below.refl _ _)
        have hrn := HRN.out w3
        clear hrt ho hb3 y0 y1 y2 f0 f1 f2 hcs HRN
        go_wp2_with fail
        refine hrn.mono ?_
        rintro e w4 ⟨v4, he, ho4, hb4⟩
        rw [HM.out] at he
        subst he
        have HB4 : Hid (Below (w.heap.size + 1) W1 w4) := HB3.out.trans (hb4.mono (HLO.out w3 HB3.out).2)
        obtain ⟨z0, z1, z2, q0, q1, q2⟩ := box_cells (HBX.out w4 HB4.out)
        have HF2 := Lib.hid (HF.out w4 HB4.out)
        clear HBX HLO HF hrn ho4 hb4 c0 c1
        go_wp2
        refine bodyPost_ret (results_cell_rowT (by rfl) _ _ w.heap.size 29 _ (0, 0) _ rfl (HF2.out.1 _ _ _) Tryd.underlying29 rfl note_size) rfl ?_
        exact ⟨by rw [HE.out]; rfl, HF2.out.2 _ _ _⟩
      | some M =>
        have HM := Lib.hid hm
        by_cases hln : M.length = 2
        rotate_left
        · have HE : Hid (noteV d = (nt0, 0)) := HNB.out (bodyN_nums hq (fun k a h => by rw [hm] at h; exact hln (by rw [Option.some.inj h]; rfl)))
          clear hq hm hlen hxs hts
          go_wp2_with fail
          refine hrt.mono ?_
          rintro e w3 ⟨v, he, ho, hb3⟩
          rw [HQ.out] at he ho
          subst he
          have HB3 : Hid (Below (w.heap.size + 1) W1 w3) := HB2.out.trans (hb3.mono (HLO.out w2 HB2.out).2)
          obtain ⟨g1, cap1, hv, hg1, hcs⟩ := two_strs ho
          subst hv
          obtain ⟨c0, c1⟩ := hcs w3 (Below.refl _ _)
          have hrn := HRN.out w3
          clear hrt ho hb3 y0 y1 y2 f0 f1 f2 hcs HRN
          go_wp2_with fail
          refine hrn.mono ?_
          rintro e w4 ⟨v4, he, ho4, hb4⟩
          rw [HM.out] at he ho4
          subst he
          have HB4 : Hid (Below (w.heap.size + 1) W1 w4) := HB3.out.trans (hb4.mono (HLO.out w3 HB3.out).2)
          obtain ⟨z0, z1, z2, q0, q1, q2⟩ := box_cells (HBX.out w4 HB4.out)
          have HF2 := Lib.hid (HF.out w4 HB4.out)
          obtain ⟨ao, cap9, hv⟩ := owns_slice ho4
          have hlv : ((some M).getD [] : List Int).length = M.length := rfl
          rw [hlv] at hv
          generalize M.length = nl at hv hln
          subst hv
          have hne : ((nl : Int) == 2) = false := by simp; omega
          have hne2 : ¬ (nl : Int) = 2 := by omega
          clear HBX HLO HF hrn ho4 hb4 c0 c1 hlv hln
          go_wp2
          refine bodyPost_ret (results_cell_rowT (by rfl) _ _ w.heap.size 29 _ (0, 0) _ rfl (HF2.out.1 _ _ _) Tryd.underlying29 rfl note_size) rfl ?_
          exact ⟨by rw [HE.out]; rfl, HF2.out.2 _ _ _⟩
        obtain ⟨ki, ai, rfl⟩ : ∃ ki ai, M = [ki, ai] := by
          match M, hln with
          | [ki, ai], _ => exact ⟨ki, ai, rfl⟩
        have hbn := bodyN_some hq hm
        have HSN := Lib.hid (fun W => specShowNote_any ki ai t W (by omega))
        obtain ⟨S, hS⟩ : ∃ S, S = showT (ki, ai, t) := ⟨_, rfl⟩
        have HMI := HNM.out _ hbn
        have HHI := HNH.out _ hbn
        rw [← hS] at HSN HMI HHI
        have HMIS := Lib.hid HMI
        have HHIT := Lib.hid HHI
        clear hq hm hlen hxs hts hln hbn hS HNB HNM HNH HMI HHI
        go_wp2_with fail
        refine hrt.mono ?_
        rintro e w3 ⟨v, he, ho, hb3⟩
        rw [HQ.out] at he ho
        subst he
        have HB3 : Hid (Below (w.heap.size + 1) W1 w3) := HB2.out.trans (hb3.mono (HLO.out w2 HB2.out).2)
        obtain ⟨g1, cap1, hv, hg1, hcs⟩ := two_strs ho
        subst hv
        obtain ⟨c0, c1⟩ := hcs w3 (Below.refl _ _)
        have HCS := Lib.hid hcs
        have hrn := HRN.out w3
        clear hrt ho hb3 y0 y1 y2 f0 f1 f2 hcs HRN
        go_wp2_with fail
        refine hrn.mono ?_
        rintro e w4 ⟨v4, he, ho4, hb4⟩
        rw [HM.out] at he ho4
        subst he
        have HB4 : Hid (Below (w.heap.size + 1) W1 w4) := HB3.out.trans (hb4.mono (HLO.out w3 HB3.out).2)
        obtain ⟨g2, cap2, hv, hg2, hct⟩ := two_ints ho4
        subst hv
        have HCT : Hid (∀ W, Below w4.heap.size w4 W → W.cell? ⟨g1, 1, none⟩ = some (.string t) ∧ W.cell? ⟨g2, 0, none⟩ = some (.int .i64 ki) ∧ W.cell? ⟨g2, 1, none⟩ = some (.int .i64 ai)) := fun W h => ⟨(HCS.out W (hb4.trans (h.mono hb4.size))).2, hct W h⟩
        obtain ⟨d0, d1, d2⟩ := HCT.out _ (Below.refl w4.heap.size w4)
        obtain ⟨e0, e1, e2⟩ := HCT.out _ ((Below.refl w4.heap.size w4).alloc (Nat.le_refl _) (.cells #[.int .i64 0, .int .i64 0, .string ⟨#[]⟩] 29))
        clear hrn ho4 hb4 c0 c1 hct HCS
        go_upto_region 10 with (fail)
        go_cut [10] from 62 to 71 (fun sv wx => sv = .pointer (some ⟨w4.heap.size, 0, none⟩) ∧ wx = (w4.alloc (.cells #[.int .i64 ki, .int .i64 ai, .string t] 29)).drew)
        case first =>
          go_region_law (fail)
          all_goals
            go_wp2_with fail
            go_meet
            exact ⟨rfl, rfl⟩
        case rest =>
          obtain ⟨rfl, hW5⟩ := hcut
          rename World => W5
          have HB5 : Hid (Below (w.heap.size + 1) W1 W5) := by rw [hW5]; exact (HB4.out.alloc (HLO.out w4 HB4.out).2 _).drew
          have HNB : Hid (w4.heap.size < W5.heap.size ∧ ∀ W, Below W5.heap.size W5 W → W.heap[w4.heap.size]? = some (.cells (ntC (ki, ai, t)) 29 (0, 0))) := by
            have h9 : W5.heap[w4.heap.size]? = some (.cells (ntC (ki, ai, t)) 29 (0, 0)) := by rw [hW5]; exact heap_alloc_new w4 _
            have h8 : w4.heap.size < W5.heap.size := by rw [hW5]; show _ < (w4.alloc _).heap.size; rw [World.size_alloc]; omega
            exact ⟨h8, fun W h => (h.block _ h8).trans h9⟩
          obtain ⟨n0, n1, n2, _, _, _⟩ := box_cells (HNB.out.2 _ (Below.refl W5.heap.size W5))
          have hsn := HSN.out W5
          clear hW5 d0 d1 d2 e0 e1 e2 HCT HSN
          go_wp2_with fail
          refine hsn.mono ?_
          rintro e w6 ⟨rfl, hb6⟩
          have HB6 : Hid (Below (w.heap.size + 1) W1 w6) := HB5.out.trans (hb6.mono (HLO.out W5 HB5.out).2)
          obtain ⟨z0, z1, z2, q0, q1, q2⟩ := box_cells (HBX.out w6 HB6.out)
          obtain ⟨m0, m1, m2, _, _, _⟩ := box_cells (HNB.out.2 _ hb6)
          have HF2 := Lib.hid (HF.out w6 HB6.out)
          clear HBX HLO HF hsn hb6 HNB n0 n1 n2
          by_cases h0 : S.size = 0
          · have HE : Hid (noteV d = (nt0, 0)) := HMIS.out (fun h => h.1 h0)
            have hS0 := size0 h0
            subst hS0
            clear h0 HMIS HHIT
            go_wp2
            refine bodyPost_ret (results_cell_rowT (by rfl) _ _ w.heap.size 29 _ (0, 0) _ rfl (HF2.out.1 _ _ _) Tryd.underlying29 rfl note_size) rfl ?_
            exact ⟨by rw [HE.out]; rfl, HF2.out.2 _ _ _⟩
          have hfull := str_full14 h0
          by_cases h1 : d.size < S.size
          · have HE : Hid (noteV d = (nt0, 0)) := HMIS.out (fun h => by have := h.2.1; omega)
            have h1I : (d.size : Int) < (S.size : Int) := by omega
            clear h0 HMIS HHIT h1
            go_wp2
            refine bodyPost_ret (results_cell_rowT (by rfl) _ _ w.heap.size 29 _ (0, 0) _ rfl (HF2.out.1 _ _ _) Tryd.underlying29 rfl note_size) rfl ?_
            exact ⟨by rw [HE.out]; rfl, HF2.out.2 _ _ _⟩
          have h1I : ¬ (d.size : Int) < (S.size : Int) := by omega
          have hsl : ∀ W : World, (Instr.slice 9 (.string d) none (some (.int .i64 (S.size : Int))) none).run Tryd.prog W = .ok (.string (d.extract 0 S.size)) W := fun W => slice_head d S.size (by omega) rfl W
          by_cases h2 : d.extract 0 S.size = S
          · have HE : Hid (noteV d = ((ki, ai, t), S.size)) := HHIT.out ⟨h0, by omega, h2⟩
            rw [h2] at hsl
            clear h0 HMIS HHIT h1 h2
            go_wp2
            refine bodyPost_ret (results_cell_rowT (by rfl) _ _ w.heap.size 29 _ (0, 0) _ rfl (HF2.out.1 _ _ _) Tryd.underlying29 rfl note_size) rfl ?_
            exact ⟨by rw [HE.out]; rfl, HF2.out.2 _ _ _⟩
          have HE : Hid (noteV d = (nt0, 0)) := HMIS.out (fun h => h2 h.2.2)
          have h2n : ¬ (d.extract 0 S.size).toList = S.toList := fun e => h2 (same_of e)
          have hne : (!(d.extract 0 S.size).toList == S.toList) = true := by simp [h2n]
          clear h2n
          generalize d.extract 0 S.size = D9 at hsl hne
          clear h0 HMIS HHIT h1 h2
          go_wp2
          refine bodyPost_ret (results_cell_rowT (by rfl) _ _ w.heap.size 29 _ (0, 0) _ rfl (HF2.out.1 _ _ _) Tryd.underlying29 rfl note_size) rfl ?_
          exact ⟨by rw [HE.out]; rfl, HF2.out.2 _ _ _⟩
end Go.Proofs.YtfoncmeplofedaqDoor
