/- CONTRACTS: container/heap's down. -/
import Derived.Test.YtgcpdifggjkdhabHeapU
namespace Go.Proofs.Ytgcpdifggjkdhab
open Go.RowKit
set_option linter.unusedVariables false
theorem swI_keep {hs : List It} {i j n : Nat} (hi : i < n) (hj : j < n) (hl : n ≤ hs.length) (k : Nat) (hk : n ≤ k) : atI (swI hs i j) k = atI hs k := by
  rw [swI_at (by omega) (by omega), if_neg (by omega), if_neg (by omega)]
set_option maxHeartbeats 4000000 in
set_option maxRecDepth 100000 in
theorem down5_any (Bg m n : Nat) (hs : List It) (w : World) (h : HGo Bg m hs w) (hm : m ≤ 1000) (hnm : n ≤ m) (i0 : Nat) (hi0 : i0 < 1000) (hu : DnI hs i0 n) :
    Calls Try.prog 114 #[hpV Bg, .int .i64 (i0 : Int), .int .i64 (n : Int)] w fun e w' => (∃ b, e = .returned (.bool b)) ∧ ∃ hs', HGo Bg m hs' w' ∧ HpI hs' n ∧ hs'.Perm hs ∧ (∀ k, n ≤ k → atI hs' k = atI hs k) ∧ Fr2 Bg w w' := by
  have HU := Lib.hid hu
  clear hu
  go_enter Try.func114, Try.ntmps114
  go_wp2
  go_loopw [7] (fun p wr => ∃ (i : Nat) (hs' : List It), p = .int .i64 i ∧ i < 1000 ∧ HGo Bg m hs' wr ∧ Hid (DnI hs' i n ∧ hs'.Perm hs ∧ ∀ k, n ≤ k → atI hs' k = atI hs k) ∧ Fr2 Bg w wr) (fun p _ => 1000 - (intOf p).toNat)
  case atStart => exact ⟨i0, hs, rfl, hi0, h, ⟨HU.out, List.Perm.refl _, fun _ _ => rfl⟩, Fr2.refl _ _⟩
  case round =>
    obtain ⟨i, hs', rfl, hi, h1, hu, hf⟩ := hrel
    clear h HU
    obtain ⟨a, ha⟩ : ∃ a, a = 2 * i + 1 := ⟨_, rfl⟩
    obtain ⟨c, hc⟩ : ∃ c, c = 2 * i + 2 := ⟨_, rfl⟩
    have hd1 : 2 * (i : Int) + 1 = (a : Int) := by omega
    have hd2 : (a : Int) + 1 = (c : Int) := by omega
    have hac : a < c := by omega
    have hc3 : c ≤ 2002 := by omega
    have hia : i < a := by omega
    have HA := Lib.hid ha
    have HC := Lib.hid hc
    clear ha hc
    by_cases han : n ≤ a
    · have hst : Hid (HpI hs' n) := hu.out.1.done0 (by rw [← HA.out]; exact han)
      go_wp2
      go_ret
      exact ⟨⟨_, rfl⟩, hs', h1, hst.out, hu.out.2.1, hu.out.2.2, hf⟩
    have hkid := kidI_or hs' i n (by rw [← HA.out]; omega)
    have hkd : kidI hs' i n = if c < n ∧ ltI (atI hs' c) (atI hs' a) = true then c else a := by rw [HA.out, HC.out]; rfl
    have hDN : ¬ LtI (atI hs' (kidI hs' i n)) (atI hs' i) → HpI hs' n := hu.out.1.done
    have hST : LtI (atI hs' (kidI hs' i n)) (atI hs' i) → DnI (swI hs' i (kidI hs' i n)) (kidI hs' i n) n := fun h2 => hu.out.1.step (by rw [← HA.out]; omega) (by rw [h1.len]; exact hnm) h2
    have HDN := Lib.hid hDN
    have HST := Lib.hid hST
    have HKD := Lib.hid hkd
    have hal : a < n := by omega
    have hneg : ¬ (a : Int) < 0 := by omega
    clear hDN hST hkd hkid
    by_cases hcn : c < n
    focus
      obtain ⟨v2, hm2, hc2⟩ := lessH Bg m hs' wr h1 hm c a (by omega) (by omega)
      by_cases hl2 : ltI (atI hs' c) (atI hs' a) = true
      focus
        rw [hl2] at hc2
        go_wp2_with fail
        refine hc2.mono ?_
        rintro e w2 ⟨rfl, h2, hf2⟩
        clear hm2 hc2
        have hkq : kidI hs' i n = c := by rw [HKD.out]; rw [if_pos ⟨hcn, hl2⟩]
        have HS := HST.out
        have HDN2 := HDN.out
        rw [hkq] at HS HDN2
        obtain ⟨v3, hm3, hc3'⟩ := lessH Bg m hs' w2 h2 hm c i (by omega) (by omega)
        by_cases hl3 : ltI (atI hs' c) (atI hs' i) = true
        focus
          rw [hl3] at hc3'
          have hst : Hid (DnI (swI hs' i c) c n ∧ (swI hs' i c).Perm hs ∧ ∀ k, n ≤ k → atI (swI hs' i c) k = atI hs k) := ⟨HS (ltI_true.1 hl3), (swI_perm (by rw [h1.len]; omega) (by rw [h1.len]; omega)).trans hu.out.2.1, fun k hk => (swI_keep (n := n) (by omega) (by omega) (by rw [h1.len]; omega) k hk).trans (hu.out.2.2 k hk)⟩
          clear HS HDN2 hkq hl3
          go_wp2_with fail
          refine hc3'.mono ?_
          rintro e w4 ⟨rfl, h4, hf4⟩
          obtain ⟨v5, hm5, hc5⟩ := swapH Bg m hs' w4 h4 hm i c (by omega) (by omega)
          clear hm3 hc3'
          go_wp2_with fail
          refine hc5.mono ?_
          rintro e w5 ⟨rfl, h5, hf5⟩
          clear hm5 hc5
          go_wp2
          go_roundw
          case rel => exact ⟨c, _, rfl, by omega, h5, hst, ((hf.trans hf2).trans hf4).trans hf5⟩
          case measure => simp [intOf]; omega
        have hl4 : ltI (atI hs' c) (atI hs' i) = false := by simpa using hl3
        rw [hl4] at hc3'
        have hst : Hid (HpI hs' n) := HDN2 (fun h2 => hl3 (ltI_true.2 h2))
        clear HS HDN2 hkq hl3 hl4
        go_wp2_with fail
        refine hc3'.mono ?_
        rintro e w4 ⟨rfl, h4, hf4⟩
        clear hm3 hc3'
        go_wp2
        go_ret
        exact ⟨⟨_, rfl⟩, hs', h4, hst.out, hu.out.2.1, hu.out.2.2, (hf.trans hf2).trans hf4⟩
      have hl5 : ltI (atI hs' c) (atI hs' a) = false := by simpa using hl2
      rw [hl5] at hc2
      go_wp2_with fail
      refine hc2.mono ?_
      rintro e w2 ⟨rfl, h2, hf2⟩
      clear hm2 hc2 hl5
      have hkq : kidI hs' i n = a := by rw [HKD.out]; rw [if_neg (fun h => hl2 h.2)]
      have HS := HST.out
      have HDN2 := HDN.out
      rw [hkq] at HS HDN2
      obtain ⟨v3, hm3, hc3'⟩ := lessH Bg m hs' w2 h2 hm a i (by omega) (by omega)
      by_cases hl3 : ltI (atI hs' a) (atI hs' i) = true
      focus
        rw [hl3] at hc3'
        have hst : Hid (DnI (swI hs' i a) a n ∧ (swI hs' i a).Perm hs ∧ ∀ k, n ≤ k → atI (swI hs' i a) k = atI hs k) := ⟨HS (ltI_true.1 hl3), (swI_perm (by rw [h1.len]; omega) (by rw [h1.len]; omega)).trans hu.out.2.1, fun k hk => (swI_keep (n := n) (by omega) (by omega) (by rw [h1.len]; omega) k hk).trans (hu.out.2.2 k hk)⟩
        clear HS HDN2 hkq hl3
        go_wp2_with fail
        refine hc3'.mono ?_
        rintro e w4 ⟨rfl, h4, hf4⟩
        obtain ⟨v5, hm5, hc5⟩ := swapH Bg m hs' w4 h4 hm i a (by omega) (by omega)
        clear hm3 hc3'
        go_wp2_with fail
        refine hc5.mono ?_
        rintro e w5 ⟨rfl, h5, hf5⟩
        clear hm5 hc5
        go_wp2
        go_roundw
        case rel => exact ⟨a, _, rfl, by omega, h5, hst, ((hf.trans hf2).trans hf4).trans hf5⟩
        case measure => simp [intOf]; omega
      have hl4 : ltI (atI hs' a) (atI hs' i) = false := by simpa using hl3
      rw [hl4] at hc3'
      have hst : Hid (HpI hs' n) := HDN2 (fun h2 => hl3 (ltI_true.2 h2))
      clear HS HDN2 hkq hl3 hl4
      go_wp2_with fail
      refine hc3'.mono ?_
      rintro e w4 ⟨rfl, h4, hf4⟩
      clear hm3 hc3'
      go_wp2
      go_ret
      exact ⟨⟨_, rfl⟩, hs', h4, hst.out, hu.out.2.1, hu.out.2.2, (hf.trans hf2).trans hf4⟩
    have hkq : kidI hs' i n = a := by rw [HKD.out]; rw [if_neg (fun h => hcn h.1)]
    have HS := HST.out
    have HDN2 := HDN.out
    rw [hkq] at HS HDN2
    obtain ⟨v3, hm3, hc3'⟩ := lessH Bg m hs' wr h1 hm a i (by omega) (by omega)
    by_cases hl3 : ltI (atI hs' a) (atI hs' i) = true
    focus
      rw [hl3] at hc3'
      have hst : Hid (DnI (swI hs' i a) a n ∧ (swI hs' i a).Perm hs ∧ ∀ k, n ≤ k → atI (swI hs' i a) k = atI hs k) := ⟨HS (ltI_true.1 hl3), (swI_perm (by rw [h1.len]; omega) (by rw [h1.len]; omega)).trans hu.out.2.1, fun k hk => (swI_keep (n := n) (by omega) (by omega) (by rw [h1.len]; omega) k hk).trans (hu.out.2.2 k hk)⟩
      clear HS HDN2 hkq hl3
      go_wp2_with fail
      refine hc3'.mono ?_
      rintro e w4 ⟨rfl, h4, hf4⟩
      obtain ⟨v5, hm5, hc5⟩ := swapH Bg m hs' w4 h4 hm i a (by omega) (by omega)
      clear hm3 hc3'
      go_wp2_with fail
      refine hc5.mono ?_
      rintro e w5 ⟨rfl, h5, hf5⟩
      clear hm5 hc5
      go_wp2
      go_roundw
      case rel => exact ⟨a, _, rfl, by omega, h5, hst, (hf.trans hf4).trans hf5⟩
      case measure => simp [intOf]; omega
    have hl4 : ltI (atI hs' a) (atI hs' i) = false := by simpa using hl3
    rw [hl4] at hc3'
    have hst : Hid (HpI hs' n) := HDN2 (fun h2 => hl3 (ltI_true.2 h2))
    clear HS HDN2 hkq hl3 hl4
    go_wp2_with fail
    refine hc3'.mono ?_
    rintro e w4 ⟨rfl, h4, hf4⟩
    clear hm3 hc3'
    go_wp2
    go_ret
    exact ⟨⟨_, rfl⟩, hs', h4, hst.out, hu.out.2.1, hu.out.2.2, hf.trans hf4⟩
end Go.Proofs.Ytgcpdifggjkdhab
