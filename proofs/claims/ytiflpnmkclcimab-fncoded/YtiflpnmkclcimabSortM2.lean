/- CONTRACTS: slices.symMergeCmpFunc, stableCmpFunc, SortStableFunc. -/
import Derived.Test.YtiflpnmkclcimabSortM
import Derived.Lib.Hide
namespace Go.Proofs.Ytiflpnmkclcimab
open Go.RowKit
set_option linter.unusedVariables false

set_option maxHeartbeats 8000000 in
set_option maxRecDepth 100000 in
theorem symMerge_any (g n bx : Nat) (vl : Value) (l : List Int) (hl0 : ∀ i, i < l.length → 0 ≤ l.getD i 0) (hn : n ≤ 1000) (hll : l.length ≤ 1000000) : ∀ (N a m b : Nat) (f : Nat → Nat) (w : World), b - a ≤ N → RowSt g n f w → EnvS g bx vl l w → (∀ k, k < n → f k < l.length) →
    a < m → m < b → b ≤ n → Srt.Sorted (lenN l) a m f → Srt.Sorted (lenN l) m b f → (∀ p q, a ≤ p → p < m → m ≤ q → q < b → f p < f q) →
    Calls Try.prog 109 #[.slice (some ⟨g, 0, none⟩) n n, .int .i64 (a : Int), .int .i64 (m : Int), .int .i64 (b : Int), .func (.func 85) #[] #[.pointer (some ⟨bx, 0, none⟩)]] w fun e w' => e = .returned (.tuple #[]) ∧
      ∃ f', RowSt g n f' w' ∧ Srt.Seg a b f f' ∧ Srt.Sorted (lenN l) a b f' ∧ Below g w w' := by
  have HL : Hid (∀ x y, x < l.length → y < l.length → (l.getD x 0 < l.getD y 0 ↔ lenN l x < lenN l y)) := fun x y hx hy => by
    have := hl0 x hx
    have := hl0 y hy
    unfold lenN
    omega
  have HCMP := fun i j w hE hi hj => cmp_any g bx vl l i j w hE hi hj (by omega)
  intro N
  induction N with
  | zero => intro a m b f w hN _ _ _ ham hmb; omega
  | succ N ih =>
    intro a m b f w hN h hE hf ham hmb hbn hs1 hs2 hx
    by_cases hor : m = a + 1 ∨ b = m + 1
    · exact symMerge_one g n bx vl l hl0 hn hll a m b f w hor h hE hf ham hmb hbn hs1 hs2 hx
    have HF : Hid (∀ k, k < n → f k < l.length) := hf
    have HX : Hid (∀ p q, a ≤ p → p < m → m ≤ q → q < b → f p < f q) := hx
    have HS1 : Hid (Srt.Sorted (lenN l) a m f) := hs1
    have HS2 : Hid (Srt.Sorted (lenN l) m b f) := hs2
    clear hf hx hs1 hs2
    have hone0 : ¬ m = a + 1 := fun h => hor (Or.inl h)
    have hlast : ¬ b = m + 1 := fun h => hor (Or.inr h)
    have honeI : ((m : Int) - (a : Int) == 1) = false := by simp; omega
    have honeI2 : ¬ (m : Int) - (a : Int) = 1 := by omega
    have hlastI : ((b : Int) - (m : Int) == 1) = false := by simp; omega
    have hlastI2 : ¬ (b : Int) - (m : Int) = 1 := by omega
    have ham3 : a + 2 ≤ m := by omega
    have hmb3 : m + 2 ≤ b := by omega
    clear hlast hone0 hor
    obtain ⟨mid, hmid1, hmid2, HMID⟩ : ∃ mid, 2 * mid ≤ a + b ∧ a + b ≤ 2 * mid + 1 ∧ Hid (((a : Int) + (b : Int)) / 2 = (mid : Int)) := ⟨(a + b) / 2, by omega, by omega, (by show _ = _; omega)⟩
    have ham2 : a < mid := by omega
    have hmb2 : mid < b := by omega
    obtain ⟨s0, r0, hs0, hsr, hcase⟩ : ∃ s0 r0, a ≤ s0 ∧ s0 ≤ r0 ∧ ((mid < m ∧ s0 + b = mid + m ∧ r0 = mid) ∨ (m ≤ mid ∧ s0 = a ∧ r0 = m)) := by
      rcases Nat.lt_or_ge mid m with h | h
      · exact ⟨mid + m - b, mid, by omega, by omega, Or.inl ⟨h, by omega, rfl⟩⟩
      · exact ⟨a, m, Nat.le_refl _, by omega, Or.inr ⟨h, rfl, rfl⟩⟩
    have hr0m : r0 ≤ m := by omega
    have HR : Hid (∀ c, s0 ≤ c → c < r0 → a ≤ c ∧ c < m ∧ m ≤ mid + m - 1 - c ∧ mid + m - 1 - c < b ∧ c ≤ mid + m - 1) := fun c h1 h2 => by omega
    have HC : Hid ((mid < m ∧ s0 + b = mid + m ∧ r0 = mid) ∨ (m ≤ mid ∧ s0 = a ∧ r0 = m)) := hcase
    have HIH : Hid (∀ (a m b : Nat) (f : Nat → Nat) (w : World), b - a ≤ N → RowSt g n f w → EnvS g bx vl l w → (∀ k, k < n → f k < l.length) →
      a < m → m < b → b ≤ n → Srt.Sorted (lenN l) a m f → Srt.Sorted (lenN l) m b f → (∀ p q, a ≤ p → p < m → m ≤ q → q < b → f p < f q) →
      Calls Try.prog 109 #[.slice (some ⟨g, 0, none⟩) n n, .int .i64 (a : Int), .int .i64 (m : Int), .int .i64 (b : Int), .func (.func 85) #[] #[.pointer (some ⟨bx, 0, none⟩)]] w fun e w' => e = .returned (.tuple #[]) ∧
        ∃ f', RowSt g n f' w' ∧ Srt.Seg a b f f' ∧ Srt.Sorted (lenN l) a b f' ∧ Below g w w') := ih
    clear ih
    go_enter Try.func109, Try.ntmps109
    go_upto_region 25 with (fail)
    rw [HMID.out]
    go_upto_if 140 with (fail)
    go_cut [20, 21] from 129 (fun p q wc => p = .int .i64 (s0 : Int) ∧ q = .int .i64 (r0 : Int) ∧ wc = w)
    case first =>
      rcases HC.out with ⟨hmm, hs0b, hr0⟩ | ⟨hmm, hs0b, hr0⟩
      · have hmmI : (mid : Int) < (m : Int) := by omega
        have HSI : Hid ((mid : Int) + (m : Int) - (b : Int) = (s0 : Int)) := by show _ = _; omega
        have HSR : Hid ((mid : Int) = (r0 : Int)) := by show _ = _; omega
        clear hmm hs0b hr0
        go_wp2
        go_meet
        exact ⟨by rw [HSI.out], by rw [HSR.out], rfl⟩
      · have hmmI : ¬ (mid : Int) < (m : Int) := by omega
        have HSI : Hid ((a : Int) = (s0 : Int)) := by show _ = _; omega
        have HSR : Hid ((m : Int) = (r0 : Int)) := by show _ = _; omega
        clear hmm hs0b hr0
        go_wp2
        go_meet
        exact ⟨by rw [HSI.out], by rw [HSR.out], rfl⟩
    case rest =>
    obtain ⟨rfl, rfl, hwc⟩ := hcut
    replace hwc := hwc.symm
    subst hwc
    clear hcase
    go_wp2
    go_loopw [20, 21] (fun p q wr => ∃ i j : Nat, p = .int .i64 i ∧ q = .int .i64 j ∧ s0 ≤ i ∧ i ≤ j ∧ j ≤ r0 ∧ RowSt g n f wr ∧ Below g w wr ∧ Hid ((s0 < i → Huff.ahead (lenN l) (f (i - 1)) (f (mid + m - 1 - (i - 1)))) ∧ (j < r0 → Huff.ahead (lenN l) (f (mid + m - 1 - j)) (f j)))) (fun p q _ => (intOf q).toNat - (intOf p).toNat)
    case atStart => exact ⟨s0, r0, rfl, rfl, Nat.le_refl _, hsr, Nat.le_refl _, h, Below.refl _ _, (fun h => by omega), (fun h => by omega)⟩
    case round =>
      obtain ⟨i, j, rfl, rfl, hi, hij, hjb, hr, hbb, hinv⟩ := hrel
      clear h
      by_cases hlt : i < j
      focus
        obtain ⟨q, hq1, hq2, HQ⟩ : ∃ q, i ≤ q ∧ q < j ∧ Hid (((i : Int) + (j : Int)) / 2 = (q : Int)) := ⟨(i + j) / 2, by omega, by omega, (by show _ = _; omega)⟩
        obtain ⟨k1, k2, k3, k4, k5⟩ := HR.out q (by omega) (by omega)
        have HPR : Hid ((m : Int) + (mid : Int) - 1 - (q : Int) = ((mid + m - 1 - q : Nat) : Int)) := by show _ = _; omega
        obtain ⟨pq, hpq⟩ : ∃ pq, pq = mid + m - 1 - q := ⟨_, rfl⟩
        have HPQ : Hid (mid + m - 1 - q = pq) := hpq.symm
        have HPI : Hid ((mid : Int) + (m : Int) - 1 - (q : Int) = (pq : Int)) := by show _ = _; omega
        rw [← hpq] at k3 k4
        clear hpq HPR k5
        have cq := hr.cell (k := q) (by omega)
        have cp := hr.cell (k := pq) (by omega)
        have HE := fun d => (hE.below hbb).drewN d
        have hql := HF.out q (by omega)
        have hpl := HF.out pq (by omega)
        have hfl := HX.out q pq k1 k2 k3 k4
        have hqnI : (q : Int) < (n : Int) := by omega
        have hpnI : (pq : Int) < (n : Int) := by omega
        have hiff := HL.out _ _ hpl hql
        have HHI : Hid (lenN l (f pq) < lenN l (f q) → Huff.ahead (lenN l) (f pq) (f q)) := fun h => Or.inl h
        have HLO : Hid (¬ lenN l (f pq) < lenN l (f q) → Huff.ahead (lenN l) (f q) (f pq)) := fun h => by unfold Huff.ahead; omega
        have hz := cz_neg (l.getD (f pq) 0) (l.getD (f q) 0)
        have hcm := fun w hE => HCMP (f pq) (f q) w hE hpl hql
        obtain ⟨z, hzz⟩ : ∃ z, z = cz (l.getD (f pq) 0) (l.getD (f q) 0) := ⟨_, rfl⟩
        rw [← hzz] at hz hcm
        rw [hiff] at hz
        have HCQ : Hid (wr.cell? ⟨g, q, none⟩ = some (.int .i64 (f q : Int))) := cq
        clear hiff hzz cq k1 k2 k3 k4
        by_cases hzn : z < 0
        focus
          have HN : Hid (Huff.ahead (lenN l) (f pq) (f q)) := HHI.out (hz.1 hzn)
          clear hz HLO HHI hfl
          go_wp2
          rw [HQ.out]
          have cq := HCQ.out
          have hpI := HPI.out
          go_quiet (first | (go_at_call 85; exact Calls.quiet_of (hcm _ (HE _))))
          clear hpI
          go_wp2
          go_roundw
          case rel => exact ⟨i, q, rfl, rfl, hi, hq1, by omega, hr.drewN _, below_drewN hbb _, hinv.out.1, (fun _ => by rw [HPQ.out]; exact HN.out)⟩
          case measure => simp [intOf]; omega
        have HN : Hid (Huff.ahead (lenN l) (f q) (f pq)) := HLO.out (fun h => hzn (hz.2 h))
        have hzD : decide (z < 0) = false := decide_eq_false hzn
        clear hz HLO HHI hfl
        go_wp2
        rw [HQ.out]
        have cq := HCQ.out
        have hpI := HPI.out
        go_quiet (first | (go_at_call 85; exact Calls.quiet_of (hcm _ (HE _))))
        clear hpI
        go_wp2
        go_roundw
        case rel => exact ⟨q + 1, j, by go_num, rfl, by omega, by omega, hjb, hr.drewN _, below_drewN hbb _, (fun _ => by rw [Nat.add_sub_cancel, HPQ.out]; exact HN.out), hinv.out.2⟩
        case measure => simp [intOf]; omega
      obtain rfl : i = j := by omega
      obtain ⟨e, he1, he2, he3, he4, HEI⟩ : ∃ e, e + i = mid + m ∧ m ≤ e ∧ e ≤ b ∧ mid ≤ e ∧ Hid ((mid : Int) + (m : Int) - (i : Int) = (e : Int)) := by
        refine ⟨mid + m - i, ?_, ?_, ?_, ?_, ?_⟩
        · rcases HC.out with h | h <;> omega
        · rcases HC.out with h | h <;> omega
        · rcases HC.out with h | h <;> omega
        · rcases HC.out with h | h <;> omega
        · show _ = _
          rcases HC.out with h | h <;> omega
      have him : i ≤ m := by omega
      have himid : i ≤ mid := by rcases HC.out with h | h <;> omega
      have hai : a ≤ i := by omega
      have HCORE := Lib.hid (Srt.sm_core (L := lenN l) (mid := mid) (start := i) (e := e) HS1.out HS2.out HX.out hai him himid he2 he3 he4 he1
        (fun h1 h2 => by
          have := hinv.out.1 (by rcases HC.out with h | h <;> omega)
          rw [show mid + m - 1 - (i - 1) = e by omega] at this
          exact this)
        (fun h1 h2 => by
          have := hinv.out.2 (by rcases HC.out with h | h <;> omega)
          rw [show mid + m - 1 - i = e - 1 by omega] at this
          exact this))
      have HSEG1 : Hid (Srt.Seg i e f (Srt.rotF i m e f)) := Srt.rot_seg f him he2
      have HROT : Hid (¬ (i < m ∧ m < e) → Srt.rotF i m e f = f) := fun h => by
        rcases Nat.lt_or_ge i m with h1 | h1
        · obtain rfl : m = e := by omega
          exact Srt.rot_same2 f
        · obtain rfl : i = m := by omega
          exact Srt.rot_same f
      have hro := fun h1 h2 cf => rotate_any g n i m e f wr hr h1 h2 (by omega) (by omega) cf
      have HHR : Hid (RowSt g n f wr) := hr
      clear hinv hr
      generalize Srt.rotF i m e f = f1 at HCORE HSEG1 HROT hro
      go_upto_region 39 with (fail)
      rw [HEI.out]
      go_cut [185] from 178 to 184 (fun s wc => s = .bool (decide (i < m ∧ m < e)) ∧ wc = wr)
      case first =>
        rcases Nat.lt_or_ge i m with h1 | h1
        · rcases Nat.lt_or_ge m e with h2 | h2
          · have hd : decide (i < m ∧ m < e) = true := decide_eq_true ⟨h1, h2⟩
            clear hro
            go_wp2
            go_meet
            exact ⟨by first | (rw [hd]; rfl) | (rw [hd]; simp; omega) | (simp; omega), rfl⟩
          · have hd : decide (i < m ∧ m < e) = false := decide_eq_false (by omega)
            clear hro
            go_wp2
            go_meet
            exact ⟨by first | (rw [hd]; rfl) | (rw [hd]; simp; omega) | (simp; omega), rfl⟩
        · have hd : decide (i < m ∧ m < e) = false := decide_eq_false (by omega)
          have hD2 : decide ((i : Int) < (m : Int)) = false := decide_eq_false (by omega)
          clear hro
          go_wp2
          go_meet
          exact ⟨by first | (rw [hd]; rfl) | (rw [hd]; simp; omega) | (simp; omega), rfl⟩
      case rest =>
      obtain ⟨rfl, hwc⟩ := hcut
      replace hwc := hwc.symm
      subst hwc
      go_upto_if 185 with (fail)
      go_cut [] from 178 (fun wc => RowSt g n f1 wc ∧ Below g w wc)
      case first =>
        by_cases hA : i < m ∧ m < e
        · rw [decide_eq_true hA]
          have hro2 := fun cf => hro hA.1 hA.2 cf
          clear hro hA
          go_wp2_with fail
          refine (hro2 _).mono ?_
          rintro e w2 ⟨rfl, hr2, hb2⟩
          clear hro2
          go_wp2
          go_meet
          exact ⟨hr2, hbb.trans hb2⟩
        · rw [decide_eq_false hA]
          have h2 : RowSt g n f1 wr := by rw [HROT.out hA]; exact HHR.out
          clear hro hA
          go_wp2
          go_meet
          exact ⟨h2, hbb⟩
      case rest =>
      obtain ⟨hr1, hb1⟩ := hcut
      clear hro hbb HHR HROT
      obtain ⟨q1, q2, q3, q4, q5, q6, q7⟩ := HCORE.out
      have HF1 : Hid (∀ k, k < n → f1 k < l.length) := Lib.hid (seg_keeps (n := n) (P := fun x => x < l.length) HSEG1.out (by omega) HF.out)
      have HX1 : Hid (∀ p q, a ≤ p → p < mid → mid ≤ q → q < b → Huff.ahead (lenN l) (f1 p) (f1 q)) := q7
      have HL1 : Hid (¬ (a < i ∧ i < mid) → Srt.Sorted (lenN l) a mid f1) := fun h => by
        rcases Nat.lt_or_ge a i with h1 | h1
        · obtain rfl : i = mid := by omega
          exact q1
        · obtain rfl : a = i := by omega
          exact q2
      have HL2 : Hid (¬ (mid < e ∧ e < b) → Srt.Sorted (lenN l) mid b f1) := fun h => by
        rcases Nat.lt_or_ge mid e with h1 | h1
        · obtain rfl : e = b := by omega
          exact q3
        · obtain rfl : mid = e := by omega
          exact q4
      have HQ := Lib.hid (And.intro q1 (And.intro q2 (And.intro q3 (And.intro q4 (And.intro q5 q6)))))
      clear q1 q2 q3 q4 q5 q6 q7 HCORE
      have HC1 := fun hA : a < i ∧ i < mid => fun (wx : World) (hrx : RowSt g n f1 wx) (hEx : EnvS g bx vl l wx) => HIH.out a i mid f1 wx (by omega) hrx hEx HF1.out hA.1 hA.2 (by omega) HQ.out.1 HQ.out.2.1 HQ.out.2.2.2.2.1
      rename World => w7
      have hE7 := hE.below hb1
      have HR7 : Hid (RowSt g n f1 w7) := hr1
      clear hr1
      go_upto_region 41 with (fail)
      go_cut [199] from 192 to 198 (fun s wx => s = .bool (decide (a < i ∧ i < mid)) ∧ wx = w7)
      case first =>
        rcases Nat.lt_or_ge a i with h1 | h1
        · rcases Nat.lt_or_ge i mid with h2 | h2
          · have hd : decide (a < i ∧ i < mid) = true := decide_eq_true ⟨h1, h2⟩
            go_wp2
            go_meet
            exact ⟨by first | (rw [hd]; rfl) | (rw [hd]; simp; omega) | (simp; omega), rfl⟩
          · have hd : decide (a < i ∧ i < mid) = false := decide_eq_false (by omega)
            go_wp2
            go_meet
            exact ⟨by first | (rw [hd]; rfl) | (rw [hd]; simp; omega) | (simp; omega), rfl⟩
        · have hd : decide (a < i ∧ i < mid) = false := decide_eq_false (by omega)
          have hD2 : decide ((a : Int) < (i : Int)) = false := decide_eq_false (by omega)
          go_wp2
          go_meet
          exact ⟨by first | (rw [hd]; rfl) | (rw [hd]; simp; omega) | (simp; omega), rfl⟩
      case rest =>
      obtain ⟨rfl, hwc⟩ := hcut
      replace hwc := hwc.symm
      subst hwc
      go_upto_if 199 with (fail)
      go_cut [] from 192 (fun wx => ∃ f2, RowSt g n f2 wx ∧ Hid (Srt.Seg a mid f1 f2 ∧ Srt.Sorted (lenN l) a mid f2) ∧ Below g w wx)
      case first =>
        by_cases hA : a < i ∧ i < mid
        · rw [decide_eq_true hA]
          have hc2 := HC1 hA w7 HR7.out hE7
          clear HC1 hA
          go_wp2_with fail
          refine hc2.mono ?_
          rintro e w2 ⟨rfl, f2, hr2, hg2, hs2, hb2⟩
          have HG2 : Hid (Srt.Seg a mid f1 f2 ∧ Srt.Sorted (lenN l) a mid f2) := ⟨hg2, hs2⟩
          clear hc2 hg2 hs2
          go_wp2
          go_meet
          exact ⟨f2, hr2, HG2.out, hb1.trans hb2⟩
        · rw [decide_eq_false hA]
          have HG2 : Hid (Srt.Seg a mid f1 f1 ∧ Srt.Sorted (lenN l) a mid f1) := ⟨Srt.Seg.refl _ _ _, HL1.out hA⟩
          clear HC1 hA
          go_wp2
          go_meet
          exact ⟨f1, HR7.out, HG2.out, hb1⟩
      case rest =>
      obtain ⟨f2, hr2, hG2, hb2⟩ := hcut
      clear HC1 hb1 hE7 HR7 HL1
      rename World => w8
      have hE8 := hE.below hb2
      have HF2 : Hid (∀ k, k < n → f2 k < l.length) := Lib.hid (seg_keeps (n := n) (P := fun x => x < l.length) hG2.out.1 (by omega) HF1.out)
      have hout : ∀ k, mid ≤ k → f2 k = f1 k := fun k hk => hG2.out.1.out (Or.inr hk)
      have HS3 : Hid (Srt.Sorted (lenN l) mid e f2 ∧ Srt.Sorted (lenN l) e b f2 ∧ (∀ p q, mid ≤ p → p < e → e ≤ q → q < b → f2 p < f2 q)) := by
        obtain ⟨g1, g2, g3, g4, g5, g6⟩ := HQ.out
        refine ⟨fun x y h1 h2 h3 => ?_, fun x y h1 h2 h3 => ?_, fun x y h1 h2 h3 h4 => ?_⟩
        · rw [hout x (by omega), hout y (by omega)]; exact g3 x y h1 h2 h3
        · rw [hout x (by omega), hout y (by omega)]; exact g4 x y h1 h2 h3
        · rw [hout x (by omega), hout y (by omega)]; exact g6 x y h1 h2 h3 h4
      have HL3 : Hid (¬ (mid < e ∧ e < b) → Srt.Sorted (lenN l) mid b f2) := fun h x y h1 h2 h3 => by
        rw [hout x (by omega), hout y (by omega)]
        exact HL2.out h x y h1 h2 h3
      have hc3 := fun hA : mid < e ∧ e < b => HIH.out mid e b f2 w8 (by omega) hr2 hE8 HF2.out hA.1 hA.2 hbn HS3.out.1 HS3.out.2.1 HS3.out.2.2
      have HFIN : Hid (∀ f3, Srt.Seg mid b f2 f3 → Srt.Sorted (lenN l) mid b f3 → Srt.Seg a b f f3 ∧ Srt.Sorted (lenN l) a b f3) := fun f3 k1 k2 =>
        ⟨((HSEG1.out.mono hai he3).trans (hG2.out.1.mono (Nat.le_refl _) (by omega))).trans (k1.mono (by omega) (Nat.le_refl _)),
          Srt.sm_join (by omega) (by omega) HX1.out hG2.out.1 hG2.out.2 k1 k2⟩
      have HR8 : Hid (RowSt g n f2 w8) := hr2
      clear hout HL2 HQ HX1 hr2
      go_upto_region 43 with (fail)
      go_cut [213] from 206 to 212 (fun s wx => s = .bool (decide (mid < e ∧ e < b)) ∧ wx = w8)
      case first =>
        rcases Nat.lt_or_ge mid e with h1 | h1
        · rcases Nat.lt_or_ge e b with h2 | h2
          · have hd : decide (mid < e ∧ e < b) = true := decide_eq_true ⟨h1, h2⟩
            go_wp2
            go_meet
            exact ⟨by first | (rw [hd]; rfl) | (rw [hd]; simp; omega) | (simp; omega), rfl⟩
          · have hd : decide (mid < e ∧ e < b) = false := decide_eq_false (by omega)
            go_wp2
            go_meet
            exact ⟨by first | (rw [hd]; rfl) | (rw [hd]; simp; omega) | (simp; omega), rfl⟩
        · have hd : decide (mid < e ∧ e < b) = false := decide_eq_false (by omega)
          have hD2 : decide ((mid : Int) < (e : Int)) = false := decide_eq_false (by omega)
          go_wp2
          go_meet
          exact ⟨by first | (rw [hd]; rfl) | (rw [hd]; simp; omega) | (simp; omega), rfl⟩
      case rest =>
      obtain ⟨rfl, hwc⟩ := hcut
      replace hwc := hwc.symm
      subst hwc
      by_cases hA : mid < e ∧ e < b
      · rw [decide_eq_true hA]
        have hc4 := hc3 hA
        clear hc3 hA
        go_wp2_with fail
        refine hc4.mono ?_
        rintro e w2 ⟨rfl, f3, hr3, hg3, hs3, hb3⟩
        have HG3 := Lib.hid (HFIN.out f3 hg3 hs3)
        clear hc4 hg3 hs3
        go_wp2
        go_end0
        exact ⟨rfl, f3, hr3, HG3.out.1, HG3.out.2, hb2.trans hb3⟩
      · rw [decide_eq_false hA]
        have HG3 := Lib.hid (HFIN.out f2 (Srt.Seg.refl _ _ _) (HL3.out hA))
        clear hc3 hA
        go_wp2
        go_end0
        exact ⟨rfl, f2, HR8.out, HG3.out.1, HG3.out.2, hb2⟩
end Go.Proofs.Ytiflpnmkclcimab
