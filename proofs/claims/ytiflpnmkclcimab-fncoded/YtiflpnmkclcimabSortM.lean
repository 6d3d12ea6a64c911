/- CONTRACTS: slices.symMergeCmpFunc, stableCmpFunc, SortStableFunc; impl.byLength. -/
import Derived.Test.YtiflpnmkclcimabSortI
import Derived.Deep.Cut
import Derived.Deep.CutRange
namespace Go.Proofs.Ytiflpnmkclcimab
open Go.RowKit
set_option linter.unusedVariables false

theorem seg_keeps {a b n : Nat} {f f' : Nat → Nat} (h : Srt.Seg a b f f') (hb : b ≤ n) {P : Nat → Prop} (hp : ∀ k, k < n → P (f k)) : ∀ k, k < n → P (f' k) := fun k hk => by
  by_cases hq : k < a ∨ b ≤ k
  · rw [h.out hq]; exact hp k hk
  · exact h.all (P := P) (fun p _ p2 => hp p (by omega)) k (by omega) (by omega)
set_option maxHeartbeats 8000000 in
set_option maxRecDepth 100000 in
theorem symMerge_one (g n bx : Nat) (vl : Value) (l : List Int) (hl0 : ∀ i, i < l.length → 0 ≤ l.getD i 0) (hn : n ≤ 1000) (hll : l.length ≤ 1000000) : ∀ (a m b : Nat) (f : Nat → Nat) (w : World), (m = a + 1 ∨ b = m + 1) → RowSt g n f w → EnvS g bx vl l w → (∀ k, k < n → f k < l.length) →
    a < m → m < b → b ≤ n → Srt.Sorted (lenN l) a m f → Srt.Sorted (lenN l) m b f → (∀ p q, a ≤ p → p < m → m ≤ q → q < b → f p < f q) →
    Calls Try.prog 109 #[.slice (some ⟨g, 0, none⟩) n n, .int .i64 (a : Int), .int .i64 (m : Int), .int .i64 (b : Int), .func (.func 85) #[] #[.pointer (some ⟨bx, 0, none⟩)]] w fun e w' => e = .returned (.tuple #[]) ∧
      ∃ f', RowSt g n f' w' ∧ Srt.Seg a b f f' ∧ Srt.Sorted (lenN l) a b f' ∧ Below g w w' := by
  have HL : Hid (∀ x y, x < l.length → y < l.length → (l.getD x 0 < l.getD y 0 ↔ lenN l x < lenN l y)) := fun x y hx hy => by
    have := hl0 x hx
    have := hl0 y hy
    unfold lenN
    omega
  have HCMP := fun i j w hE hi hj => cmp_any g bx vl l i j w hE hi hj (by omega)
  clear hl0
  intro a m b f w hor h hE hf ham hmb hbn hs1 hs2 hx
  have HF : Hid (∀ k, k < n → f k < l.length) := hf
  have HX : Hid (∀ p q, a ≤ p → p < m → m ≤ q → q < b → f p < f q) := hx
  have HS1 : Hid (Srt.Sorted (lenN l) a m f) := hs1
  have HS2 : Hid (Srt.Sorted (lenN l) m b f) := hs2
  clear hf hx hs1 hs2
  by_cases hone : m = a + 1
  focus
    have honeI : (m : Int) - (a : Int) = 1 := by omega
    have HONE : Hid (m = a + 1) := hone
    have hm1 : a + 1 ≤ m := by omega
    have hm2 : m ≤ a + 1 := by omega
    clear hone
    have hal := HF.out a (by omega)
    go_enter Try.func109, Try.ntmps109
    go_wp2
    go_loopw [10, 11] (fun p q wr => ∃ i j : Nat, p = .int .i64 i ∧ q = .int .i64 j ∧ m ≤ i ∧ i ≤ j ∧ j ≤ b ∧ RowSt g n f wr ∧ Below g w wr ∧ Hid ((m < i → Huff.ahead (lenN l) (f (i - 1)) (f a)) ∧ (j < b → Huff.ahead (lenN l) (f a) (f j)))) (fun p q _ => (intOf q).toNat - (intOf p).toNat)
    case atStart => exact ⟨m, b, rfl, rfl, Nat.le_refl _, by omega, Nat.le_refl _, h, Below.refl _ _, (fun h => by omega), (fun h => by omega)⟩
    case round =>
      obtain ⟨i, j, rfl, rfl, hi, hij, hjb, hr, hbb, hinv⟩ := hrel
      by_cases hlt : i < j
      focus
        obtain ⟨q, hq1, hq2, HQ⟩ : ∃ q, i ≤ q ∧ q < j ∧ Hid (((i : Int) + (j : Int)) / 2 = (q : Int)) := ⟨(i + j) / 2, by omega, by omega, (by show _ = _; omega)⟩
        have cq := hr.cell (k := q) (by omega)
        have ca := hr.cell (k := a) (by omega)
        have HE := fun d => (hE.below hbb).drewN d
        have hql := HF.out q (by omega)
        have hfl := HX.out a q (Nat.le_refl a) (by omega) (by omega) (by omega)
        have hqnI : (q : Int) < (n : Int) := by omega
        have hanI : (a : Int) < (n : Int) := by omega
        have hiff := HL.out _ _ hql hal
        have HLO : Hid (lenN l (f q) < lenN l (f a) → Huff.ahead (lenN l) (f q) (f a)) := fun h => Or.inl h
        have HHI : Hid (¬ lenN l (f q) < lenN l (f a) → Huff.ahead (lenN l) (f a) (f q)) := fun h => by unfold Huff.ahead; omega
        have hz := cz_neg (l.getD (f q) 0) (l.getD (f a) 0)
        have hcm := fun w hE => HCMP (f q) (f a) w hE hql hal
        obtain ⟨z, hzz⟩ : ∃ z, z = cz (l.getD (f q) 0) (l.getD (f a) 0) := ⟨_, rfl⟩
        rw [← hzz] at hz hcm
        rw [hiff] at hz
        have HCQ : Hid (wr.cell? ⟨g, q, none⟩ = some (.int .i64 (f q : Int))) := cq
        clear hiff hzz cq
        by_cases hzn : z < 0
        focus
          have HN : Hid (Huff.ahead (lenN l) (f q) (f a)) := HLO.out (hz.1 hzn)
          clear hz HLO HHI hfl
          go_wp2
          rw [HQ.out]
          have cq := HCQ.out
          go_quiet (first | (go_at_call 85; exact Calls.quiet_of (hcm _ (HE _))))
          go_wp2
          go_roundw
          case rel => exact ⟨q + 1, j, by go_num, rfl, by omega, by omega, hjb, hr.drewN _, below_drewN hbb _, (fun _ => HN.out), hinv.out.2⟩
          case measure => simp [intOf]; omega
        have HN : Hid (Huff.ahead (lenN l) (f a) (f q)) := HHI.out (fun h => hzn (hz.2 h))
        clear hz HLO HHI hfl
        go_wp2
        rw [HQ.out]
        have cq := HCQ.out
        go_quiet (first | (go_at_call 85; exact Calls.quiet_of (hcm _ (HE _))))
        go_wp2
        go_roundw
        case rel => exact ⟨i, q, rfl, rfl, hi, hq1, by omega, hr.drewN _, below_drewN hbb _, hinv.out.1, (fun _ => HN.out)⟩
        case measure => simp [intOf]; omega
      obtain rfl : i = j := by omega
      have HDONE : Hid (Srt.Seg a b f (Srt.rotF a (a + 1) i f) ∧ Srt.Sorted (lenN l) a b (Srt.rotF a (a + 1) i f)) := ⟨(Srt.rot_seg f (Nat.le_succ a) (by omega)).mono (Nat.le_refl a) hjb, Srt.sm_one_left (by rw [← HONE.out]; exact HS2.out) (by omega) hjb (fun h => hinv.out.1 (by omega)) hinv.out.2⟩
      have hr0 : RowSt g n (Srt.rotF a (a + 1) (a + 1) f) wr := by rw [Srt.rot_same2]; exact hr
      have hb0 := hbb
      clear hinv h hr hbb
      rename World => w5
      go_wp2
      go_loopw [13] (fun p wr => ∃ k : Nat, p = .int .i64 k ∧ a ≤ k ∧ k + 1 ≤ i ∧ RowSt g n (Srt.rotF a (a + 1) (k + 1) f) wr ∧ Below g w wr) (fun p _ => i - (intOf p).toNat)
      case atStart => exact ⟨a, rfl, Nat.le_refl _, by omega, hr0, hb0⟩
      case round =>
        obtain ⟨k, rfl, hak, hki, hr, hbb⟩ := hrel
        clear hr0 hb0
        by_cases hlt : k + 1 < i
        focus
          have c1 := hr.cell (k := k) (by omega)
          have c2 := hr.cell (k := k + 1) (by omega)
          have f1 : wr.frozen? ⟨g, k, none⟩ = false := World.ownsRow.frozenAt hr _
          have f2 : wr.frozen? ⟨g, k + 1, none⟩ = false := World.ownsRow.frozenAt hr _
          have hsw := fun d => (hr.drewN d).swap k (k + 1)
          rw [Srt.rot_fwd f hak] at hsw
          have HSW := fun d => (show Hid (RowSt g n (Srt.rotF a (a + 1) (k + 2) f) _ ∧ Below g (wr.drewN d) _) from hsw d)
          obtain ⟨x, hx⟩ : ∃ x, x = Srt.rotF a (a + 1) (k + 1) f k := ⟨_, rfl⟩
          obtain ⟨y, hy⟩ : ∃ y, y = Srt.rotF a (a + 1) (k + 1) f (k + 1) := ⟨_, rfl⟩
          rw [← hx] at c1 HSW
          rw [← hy] at c2 HSW
          have hI : (k : Int) < (i : Int) - 1 := by omega
          clear hsw hr hx hy
          go_wp2
          go_region
          all_goals
            go_wp2
            go_roundw
            case rel => exact ⟨k + 1, by go_num, by omega, by omega, (HSW _).out.1, hbb.trans ((below_drewN (Below.refl g wr) _).trans (by first | exact (HSW _).out.2 | exact (HSW _).out.2.drew))⟩
            case measure => simp [intOf]; omega
        rw [show k + 1 = i by omega] at hr
        have hI : ¬ (k : Int) < (i : Int) - 1 := by omega
        go_wp2
        refine bodyPost_ret (results_none rfl _ _ _) rfl ?_
        exact ⟨rfl, _, hr, HDONE.out.1, HDONE.out.2, hbb⟩
  have hone0 : ¬ m = a + 1 := hone
  have honeI : ((m : Int) - (a : Int) == 1) = false := by simp; omega
  have honeI2 : ¬ (m : Int) - (a : Int) = 1 := by omega
  clear hone
  by_cases hlast : b = m + 1
  focus
    have hlastI : (b : Int) - (m : Int) = 1 := by omega
    have HLAST : Hid (b = m + 1) := hlast
    have hb1 : m + 1 ≤ b := by omega
    have hb2 : b ≤ m + 1 := by omega
    clear hlast
    have hml := HF.out m (by omega)
    go_enter Try.func109, Try.ntmps109
    go_wp2
    go_loopw [14, 15] (fun p q wr => ∃ i j : Nat, p = .int .i64 i ∧ q = .int .i64 j ∧ a ≤ i ∧ i ≤ j ∧ j ≤ m ∧ RowSt g n f wr ∧ Below g w wr ∧ Hid ((a < i → Huff.ahead (lenN l) (f (i - 1)) (f m)) ∧ (j < m → Huff.ahead (lenN l) (f m) (f j)))) (fun p q _ => (intOf q).toNat - (intOf p).toNat)
    case atStart => exact ⟨a, m, rfl, rfl, Nat.le_refl _, by omega, Nat.le_refl _, h, Below.refl _ _, (fun h => by omega), (fun h => by omega)⟩
    case round =>
      obtain ⟨i, j, rfl, rfl, hi, hij, hjb, hr, hbb, hinv⟩ := hrel
      by_cases hlt : i < j
      focus
        obtain ⟨q, hq1, hq2, HQ⟩ : ∃ q, i ≤ q ∧ q < j ∧ Hid (((i : Int) + (j : Int)) / 2 = (q : Int)) := ⟨(i + j) / 2, by omega, by omega, (by show _ = _; omega)⟩
        have cq := hr.cell (k := q) (by omega)
        have cm := hr.cell (k := m) (by omega)
        have HE := fun d => (hE.below hbb).drewN d
        have hql := HF.out q (by omega)
        have hfl := HX.out q m (by omega) (by omega) (Nat.le_refl m) (by omega)
        have hqnI : (q : Int) < (n : Int) := by omega
        have hmnI : (m : Int) < (n : Int) := by omega
        have hiff := HL.out _ _ hml hql
        have HHI : Hid (lenN l (f m) < lenN l (f q) → Huff.ahead (lenN l) (f m) (f q)) := fun h => Or.inl h
        have HLO : Hid (¬ lenN l (f m) < lenN l (f q) → Huff.ahead (lenN l) (f q) (f m)) := fun h => by unfold Huff.ahead; omega
        have hz := cz_neg (l.getD (f m) 0) (l.getD (f q) 0)
        have hcm := fun w hE => HCMP (f m) (f q) w hE hml hql
        obtain ⟨z, hzz⟩ : ∃ z, z = cz (l.getD (f m) 0) (l.getD (f q) 0) := ⟨_, rfl⟩
        rw [← hzz] at hz hcm
        rw [hiff] at hz
        have HCQ : Hid (wr.cell? ⟨g, q, none⟩ = some (.int .i64 (f q : Int))) := cq
        clear hiff hzz cq
        by_cases hzn : z < 0
        focus
          have HN : Hid (Huff.ahead (lenN l) (f m) (f q)) := HHI.out (hz.1 hzn)
          clear hz HLO HHI hfl
          go_wp2
          rw [HQ.out]
          have cq := HCQ.out
          go_quiet (first | (go_at_call 85; exact Calls.quiet_of (hcm _ (HE _))))
          go_wp2
          go_roundw
          case rel => exact ⟨i, q, rfl, rfl, hi, hq1, by omega, hr.drewN _, below_drewN hbb _, hinv.out.1, (fun _ => HN.out)⟩
          case measure => simp [intOf]; omega
        have HN : Hid (Huff.ahead (lenN l) (f q) (f m)) := HLO.out (fun h => hzn (hz.2 h))
        have hzD : decide (z < 0) = false := decide_eq_false hzn
        clear hz HLO HHI hfl
        go_wp2
        rw [HQ.out]
        have cq := HCQ.out
        go_quiet (first | (go_at_call 85; exact Calls.quiet_of (hcm _ (HE _))))
        go_wp2
        go_roundw
        case rel => exact ⟨q + 1, j, by go_num, rfl, by omega, by omega, hjb, hr.drewN _, below_drewN hbb _, (fun _ => HN.out), hinv.out.2⟩
        case measure => simp [intOf]; omega
      obtain rfl : i = j := by omega
      have HDONE : Hid (Srt.Seg a b f (Srt.rotF i m (m + 1) f) ∧ Srt.Sorted (lenN l) a b (Srt.rotF i m (m + 1) f)) := ⟨(Srt.rot_seg f hjb (Nat.le_succ m)).mono hi hb1, by rw [HLAST.out]; exact Srt.sm_one_right HS1.out hi hjb hinv.out.1 hinv.out.2⟩
      have hr0 : RowSt g n (Srt.rotF m m (m + 1) f) wr := by rw [Srt.rot_same]; exact hr
      have hb0 := hbb
      clear hinv h hr hbb
      rename World => w5
      go_wp2
      go_loopw [17] (fun p wr => ∃ k : Nat, p = .int .i64 k ∧ i ≤ k ∧ k ≤ m ∧ RowSt g n (Srt.rotF k m (m + 1) f) wr ∧ Below g w wr) (fun p _ => (intOf p).toNat)
      case atStart => exact ⟨m, rfl, hjb, Nat.le_refl _, hr0, hb0⟩
      case round =>
        obtain ⟨k, rfl, hak, hki, hr, hbb⟩ := hrel
        clear hr0 hb0
        by_cases hlt : i < k
        focus
          have c1 := hr.cell (k := k) (by omega)
          have c2 := hr.cell (k := k - 1) (by omega)
          have f1 : wr.frozen? ⟨g, k, none⟩ = false := World.ownsRow.frozenAt hr _
          have f2 : wr.frozen? ⟨g, k - 1, none⟩ = false := World.ownsRow.frozenAt hr _
          have hkm : (k : Int) - 1 = ((k - 1 : Nat) : Int) := by omega
          have hsw := fun d => (hr.drewN d).swap k (k - 1)
          rw [Srt.rot_ins f (by omega) hki] at hsw
          have HSW := fun d => (show Hid (RowSt g n (Srt.rotF (k - 1) m (m + 1) f) _ ∧ Below g (wr.drewN d) _) from hsw d)
          obtain ⟨x, hx⟩ : ∃ x, x = Srt.rotF k m (m + 1) f k := ⟨_, rfl⟩
          obtain ⟨y, hy⟩ : ∃ y, y = Srt.rotF k m (m + 1) f (k - 1) := ⟨_, rfl⟩
          rw [← hx] at c1 HSW
          rw [← hy] at c2 HSW
          clear hsw hr hx hy
          go_wp2
          go_region
          all_goals
            go_wp2
            go_roundw
            case rel => exact ⟨k - 1, by go_num, by omega, by omega, (HSW _).out.1, hbb.trans ((below_drewN (Below.refl g wr) _).trans (by first | exact (HSW _).out.2 | exact (HSW _).out.2.drew))⟩
            case measure => simp [intOf]; omega
        obtain rfl : k = i := by omega
        go_wp2
        refine bodyPost_ret (results_none rfl _ _ _) rfl ?_
        exact ⟨rfl, _, hr, HDONE.out.1, HDONE.out.2, hbb⟩
  exact absurd hor (by omega)
end Go.Proofs.Ytiflpnmkclcimab
