/- CONTRACTS: how many numbers two rising lists share: spec's (l1Has, l1Rises, l4Numbers, Shared), impl's (numbersRise, Shared) and slices.BinarySearch. -/
import Derived.Test.YtndecefcnalgdabRoll
import Derived.Deep.RegionHeld
namespace Go.Proofs.Ytndecefcnalgdab
open Go.RowKit

def risesB (l : List Int) : Bool := decide (∀ i, i < l.length → 0 < i → l.getD (i - 1) 0 < l.getD i 0)
/-- a rising list of numbers that Number takes -/
def okNums (l : List Int) : Bool := decide (∀ i, i < l.length → 0 ≤ l.getD i 0 ∧ l.getD i 0 ≤ 1099511627776) && risesB l
/-- how many numbers of a, and s, are in b -/
def cntN (a b : List Int) (s : Int) : Nat := (a.filter fun x => b.contains (x + s)).length
/-- what Shared tells -/
def sharedT (a b : List Int) (s : Int) : Int := if (okNums a && okNums b && decide (-1099511627776 ≤ s ∧ s ≤ 1099511627776)) = true then (cntN a b s : Int) else -1
theorem rises_mono {l : List Int} (h : risesB l = true) (p : Nat) : ∀ d, p + d < l.length → l.getD p 0 ≤ l.getD (p + d) 0 := by
  have h1 := of_decide_eq_true h
  intro d
  induction d with
  | zero => intro _; exact Int.le_refl _
  | succ d ih =>
    intro hd
    have h2 := ih (by omega)
    have h3 := h1 (p + (d + 1)) hd (by omega)
    rw [show p + (d + 1) - 1 = p + d by omega] at h3
    omega
theorem rises_le {l : List Int} (h : risesB l = true) {p q : Nat} (h1 : p ≤ q) (h2 : q < l.length) : l.getD p 0 ≤ l.getD q 0 := by
  have := rises_mono h p (q - p) (by omega)
  rwa [show p + (q - p) = q by omega] at this
theorem contains_at (l : List Int) (t : Int) : l.contains t = true ↔ ∃ i, i < l.length ∧ l.getD i 0 = t := by
  rw [List.contains_iff_mem, List.mem_iff_getElem]
  constructor
  · rintro ⟨i, hi, e⟩
    exact ⟨i, hi, by simp [List.getD, hi, e]⟩
  · rintro ⟨i, hi, e⟩
    exact ⟨i, hi, by simpa [List.getD, hi] using e⟩
theorem cntN_succ (a b : List Int) (s : Int) (k : Nat) (h : k < a.length) : cntN (a.take (k + 1)) b s = cntN (a.take k) b s + if b.contains (a.getD k 0 + s) = true then 1 else 0 := by
  unfold cntN
  rw [take_snoc a 0 k h, List.filter_append, List.length_append]
  congr 1
  by_cases hc : b.contains (a.getD k 0 + s) = true
  · rw [if_pos hc, List.filter_cons, if_pos hc]; rfl
  · rw [if_neg hc, List.filter_cons, if_neg hc]; rfl
theorem okNums_range {l : List Int} (h : okNums l = true) (i : Nat) (hi : i < l.length) : 0 ≤ l.getD i 0 ∧ l.getD i 0 ≤ 1099511627776 := by
  unfold okNums at h
  simp only [Bool.and_eq_true, decide_eq_true_eq] at h
  exact h.1 i hi
theorem okNums_rises {l : List Int} (h : okNums l = true) : risesB l = true := by
  unfold okNums at h
  simp only [Bool.and_eq_true] at h
  exact h.2
theorem okNums_no {l : List Int} {i : Nat} (hi : i < l.length) (h : ¬ (0 ≤ l.getD i 0 ∧ l.getD i 0 ≤ 1099511627776)) : okNums l = false := by
  cases hk : okNums l
  · rfl
  · exact absurd (okNums_range hk i hi) h
theorem risesB_no {l : List Int} {i : Nat} (hi : i < l.length) (h0 : 0 < i) (h : ¬ l.getD (i - 1) 0 < l.getD i 0) : risesB l = false :=
  decide_eq_false fun hk => h (hk i hi h0)
theorem okNums_no2 {l : List Int} {i : Nat} (hi : i < l.length) (h0 : 0 < i) (h : ¬ l.getD (i - 1) 0 < l.getD i 0) : okNums l = false := by
  unfold okNums
  rw [risesB_no hi h0 h, Bool.and_false]

theorem isNaN_any (x : Int) (w : World) : Calls Try.prog 38 #[.int .i64 x] w fun e w' => e = .returned (.bool false) ∧ w' = w := by
  have hx : (x != x) = false := by simp
  go_enter Try.func38, Try.ntmps38
  go_wp2
  go_ret
  exact ⟨rfl, rfl⟩
theorem isNaN2_any (x : Int) (w : World) : Calls Try.prog 33 #[.int .i64 x] w fun e w' => e = .returned (.bool false) ∧ w' = w := by
  have hx : (x != x) = false := by simp
  go_enter Try.func33, Try.ntmps33
  go_wp2
  go_ret
  exact ⟨rfl, rfl⟩
theorem less_any (x y : Int) (w : World) : Calls Try.prog 32 #[.int .i64 x, .int .i64 y] w fun e w' => e = .returned (.bool (decide (x < y))) ∧ w' = w := by
  go_enter Try.func32, Try.ntmps32
  go_wp2_with fail
  refine (isNaN_any _ _).mono ?_
  rintro e w1 ⟨rfl, rfl⟩
  go_wp2
  go_ret
  exact ⟨rfl, rfl⟩

set_option maxHeartbeats 1000000 in
set_option maxRecDepth 100000 in
theorem search_any (va : Value) (l : List Int) (t : Int) (w : World) (ha : Rd w va (cellsInt64S l)) (hl : l.length ≤ 1099511627776) (hr : risesB l = true) :
    Calls Try.prog 24 #[va, .int .i64 t] w fun e w' => ∃ i : Int, e = .returned (.tuple #[.int .i64 i, .bool (l.contains t)]) ∧ w' = w := by
  have hla : (cellsInt64S l).length = l.length := by simp
  obtain ⟨ao, cap, rfl, hcap, hx⟩ := ha
  rw [hla] at hcap hx ⊢
  have HX : Hid (∀ j, j < l.length → ∃ b off, ao = some ⟨b, off, none⟩ ∧ w.cell? ⟨b, off + j, none⟩ = some (.int .i64 (l.getD j 0))) := fun j hj => by
    obtain ⟨b, off, h1, h2, h3⟩ := hx (by intro h; rw [h] at hla; simp at hla; omega)
    exact ⟨b, off, h1, (h3 j hj).trans (ints_get _ l j hj)⟩
  have HM : Hid (∀ p q, p ≤ q → q < l.length → l.getD p 0 ≤ l.getD q 0) := fun p q h1 h2 => rises_le hr h1 h2
  have HC : Hid (l.contains t = true ↔ ∃ i, i < l.length ∧ l.getD i 0 = t) := contains_at l t
  clear hx hla hr
  generalize l.contains t = c at HC ⊢
  obtain ⟨n, hn⟩ : ∃ n, n = l.length := ⟨_, rfl⟩
  rw [← hn] at hcap HX HM HC hl ⊢
  clear hn
  go_enter Try.func24, Try.ntmps24
  go_wp2
  go_loop [7, 8] (fun p q => ∃ i j : Nat, p = .int .i64 i ∧ q = .int .i64 j ∧ i ≤ j ∧ j ≤ n ∧ Hid (∀ m, m < i → l.getD m 0 < t) ∧ Hid (∀ m, j ≤ m → m < n → t ≤ l.getD m 0)) (fun p q => (intOf q).toNat - (intOf p).toNat)
  case atStart => exact ⟨0, n, rfl, rfl, Nat.zero_le _, Nat.le_refl _, fun m h => by omega, fun m h1 h2 => by omega⟩
  case round =>
    obtain ⟨i, j, rfl, rfl, hij, hjn, h1, h2⟩ := hrel
    by_cases hlt : i < j
    focus
      obtain ⟨b, off, rfl, hc⟩ := HX.out ((i + j) / 2) (by omega)
      obtain ⟨x, hxx⟩ : ∃ x, x = l.getD ((i + j) / 2) 0 := ⟨_, rfl⟩
      rw [← hxx] at hc
      have HXX : Hid (x = l.getD ((i + j) / 2) 0) := hxx
      clear hxx
      go_wp2_with fail
      refine (less_any _ _ _).mono ?_
      rintro e w1 ⟨rfl, rfl⟩
      by_cases hxt : x < t
      · go_wp2
        go_round
        case rel => exact ⟨(i + j) / 2 + 1, j, by go_num, rfl, by omega, hjn, fun m hm => by have := HM.out m ((i + j) / 2) (by omega) (by omega); have := HXX.out; omega, h2⟩
        case measure => simp [intOf]; omega
      · go_wp2
        go_round
        case rel => exact ⟨i, (i + j) / 2, rfl, by go_num, by omega, by omega, h1, fun m hm1 hm2 => by have := HM.out ((i + j) / 2) m hm1 hm2; have := HXX.out; omega⟩
        case measure => simp [intOf]; omega
    obtain rfl : i = j := by omega
    by_cases hin : i < n
    focus
      obtain ⟨b, off, rfl, hc⟩ := HX.out i hin
      by_cases hxt : l.getD i 0 = t
      · have hct : c = true := HC.out.2 ⟨i, hin, hxt⟩
        rw [hxt] at hc
        clear HX HM HC h1 h2 hxt
        subst hct
        go_wp2
        go_ret2
        first
          | exact ⟨_, rfl, rfl⟩
          | exact ⟨_, rfl⟩
          | exact ⟨⟨_, rfl⟩, rfl⟩
      · have hct : c = false := by
          cases c
          · rfl
          · obtain ⟨m, hm, e⟩ := HC.out.1 rfl
            exfalso
            rcases Nat.lt_or_ge m i with h | h
            · have := h1.out m h; omega
            · have h3 := HM.out i m h hm
              have h4 := h2.out i (Nat.le_refl _) hin
              omega
        obtain ⟨x, hx⟩ : ∃ x, x = l.getD i 0 := ⟨_, rfl⟩
        rw [← hx] at hc hxt
        clear HX HM HC h1 h2 hx
        subst hct
        go_wp2_with fail
        refine (isNaN2_any _ _).mono ?_
        rintro e w1 ⟨rfl, rfl⟩
        have hbt : (x == t) = false := beq_eq_false_iff_ne.2 hxt
        go_wp2
        go_ret2
        first
          | exact ⟨_, rfl, rfl⟩
          | exact ⟨_, rfl⟩
          | exact ⟨⟨_, rfl⟩, rfl⟩
    have hct : c = false := by
      cases c
      · rfl
      · obtain ⟨m, hm, e⟩ := HC.out.1 rfl
        exfalso
        have := h1.out m (by omega)
        omega
    clear HX HM HC h1 h2
    subst hct
    go_wp2
    go_ret2
    first
      | exact ⟨_, rfl, rfl⟩
      | exact ⟨_, rfl⟩
      | exact ⟨⟨_, rfl⟩, rfl⟩

theorem l1Has_any (va : Value) (l : List Int) (t : Int) (w : World) (ha : Rd w va (cellsInt64S l)) (hl : l.length ≤ 1099511627776) :
    Calls Try.prog 27 #[va, .int .i64 t] w fun e w' => e = .returned (.bool (l.contains t)) ∧ w' = w := by
  have hla : (cellsInt64S l).length = l.length := by simp
  obtain ⟨ao, cap, rfl, hcap, hx⟩ := ha
  rw [hla] at hcap hx ⊢
  have HX : Hid (∀ j, j < l.length → ∃ b off, ao = some ⟨b, off, none⟩ ∧ w.cell? ⟨b, off + j, none⟩ = some (.int .i64 (l.getD j 0))) := fun j hj => by
    obtain ⟨b, off, h1, h2, h3⟩ := hx (by intro h; rw [h] at hla; simp at hla; omega)
    exact ⟨b, off, h1, (h3 j hj).trans (ints_get _ l j hj)⟩
  have HC : Hid (l.contains t = true ↔ ∃ i, i < l.length ∧ l.getD i 0 = t) := contains_at l t
  clear hx hla
  generalize l.contains t = c at HC ⊢
  obtain ⟨n, hn⟩ : ∃ n, n = l.length := ⟨_, rfl⟩
  rw [← hn] at hcap HX HC hl ⊢
  clear hn
  go_enter Try.func27, Try.ntmps27
  go_wp2
  go_loop [5] (fun i => ∃ k : Nat, i = .int .i64 k ∧ k ≤ n ∧ Hid (∀ m, m < k → ¬ l.getD m 0 = t)) (fun i => n - (intOf i).toNat)
  case atStart => exact ⟨0, rfl, Nat.zero_le _, fun m h => by omega⟩
  case round =>
    obtain ⟨k, rfl, hk, h1⟩ := hrel
    by_cases hlt : k < n
    focus
      obtain ⟨b, off, rfl, hc⟩ := HX.out k hlt
      obtain ⟨x, hxx⟩ : ∃ x, x = l.getD k 0 := ⟨_, rfl⟩
      have HXX : Hid (x = l.getD k 0) := hxx
      rw [← hxx] at hc
      clear hxx
      by_cases hxt : x = t
      · have hct : Hid (c = true) := HC.out.2 ⟨k, hlt, by rw [← HXX.out]; exact hxt⟩
        subst hxt
        go_wp2
        go_ret
        exact ⟨by rw [hct.out]; rfl, rfl⟩
      · go_wp2
        go_round
        case rel => exact ⟨k + 1, by go_num, by omega, fun m hm => by
          rcases Nat.lt_or_ge m k with h | h
          · exact h1.out m h
          · obtain rfl : m = k := by omega
            rw [← HXX.out]; exact hxt⟩
        case measure => simp [intOf]; omega
    have hct : Hid (c = false) := by
      show _ = _
      cases c
      · rfl
      · obtain ⟨m, hm, e⟩ := HC.out.1 rfl
        exact absurd e (h1.out m (by omega))
    clear HX HC h1
    go_wp2
    go_ret
    exact ⟨by rw [hct.out]; rfl, rfl⟩

set_option maxRecDepth 100000 in
theorem l1Rises_any (va : Value) (l : List Int) (w : World) (ha : Rd w va (cellsInt64S l)) (hl : l.length ≤ 1099511627776) :
    Calls Try.prog 34 #[va] w fun e w' => e = .returned (.bool (risesB l)) ∧ Below w.heap.size w w' := by
  have hla : (cellsInt64S l).length = l.length := by simp
  obtain ⟨ao, cap, rfl, hcap, hx⟩ := ha
  rw [hla] at hcap hx ⊢
  have HX : Hid (0 < l.length → ∃ b off, ao = some ⟨b, off, none⟩ ∧ ∀ j, j < l.length → w.cell? ⟨b, off + j, none⟩ = some (.int .i64 (l.getD j 0))) := fun hp => by
    obtain ⟨b, off, h1, h2, h3⟩ := hx (by intro h; rw [h] at hla; simp at hla; omega)
    exact ⟨b, off, h1, fun j hj => (h3 j hj).trans (ints_get _ l j hj)⟩
  have HNO : Hid (∀ i, i < l.length → 0 < i → ¬ l.getD (i - 1) 0 < l.getD i 0 → risesB l = false) := fun i a b c => risesB_no a b c
  have HYES : Hid ((∀ i, i < l.length → 0 < i → l.getD (i - 1) 0 < l.getD i 0) → risesB l = true) := fun h => decide_eq_true h
  clear hx hla
  generalize risesB l = c at HNO HYES ⊢
  obtain ⟨n, hn⟩ : ∃ n, n = l.length := ⟨_, rfl⟩
  rw [← hn] at hcap HX HNO HYES hl ⊢
  clear hn
  go_enter Try.func34, Try.ntmps34
  go_wp2
  go_loopw [3] (fun i wr => ∃ k d : Nat, i = .int .i64 ((k : Int) + 1) ∧ (k ≤ n) ∧ wr = w.drewN d ∧ Hid (∀ m, m ≤ k → m < n → 0 < m → l.getD (m - 1) 0 < l.getD m 0)) (fun i _ => n + 1 - (intOf i).toNat)
  case atStart => exact ⟨0, 0, rfl, Nat.zero_le _, rfl, fun m h1 h2 h3 => by omega⟩
  case round =>
    obtain ⟨k, d, rfl, hk, rfl, h1⟩ := hrel
    by_cases hlt : k + 1 < n
    focus
      obtain ⟨b, off, rfl, hc⟩ := HX.out (by omega)
      have hc1 := hc (k + 1) hlt
      have hc0 := hc k (by omega)
      obtain ⟨x, hxx⟩ : ∃ x, x = l.getD k 0 := ⟨_, rfl⟩
      obtain ⟨y, hyy⟩ : ∃ y, y = l.getD (k + 1) 0 := ⟨_, rfl⟩
      have HXX : Hid (x = l.getD k 0) := hxx
      have HYY : Hid (y = l.getD (k + 1) 0) := hyy
      rw [← hxx] at hc0
      rw [← hyy] at hc1
      have hkn : k < n := by omega
      clear hxx hyy hc HX
      by_cases hle : y ≤ x
      · have hcf : Hid (c = false) := HNO.out (k + 1) hlt (by omega) (by rw [Nat.add_sub_cancel, ← HXX.out, ← HYY.out]; omega)
        clear HNO HYES
        go_wp2
        go_quiet (fail)
        go_wp2
        go_ret
        exact ⟨by rw [hcf.out]; rfl, below_drewN (below_drewN (Below.refl _ _) _) _⟩
      · go_wp2
        go_quiet (fail)
        go_wp2
        go_roundw
        case rel => exact ⟨k + 1, _, by go_num, by omega, rfl, fun m hm h2 h3 => by
          rcases Nat.lt_or_ge k m with h | h
          · obtain rfl : m = k + 1 := by omega
            rw [Nat.add_sub_cancel, ← HXX.out, ← HYY.out]; omega
          · exact h1.out m h h2 h3⟩
        case measure => simp [intOf]; omega
    have hct : Hid (c = true) := HYES.out fun i a b => h1.out i (by omega) a b
    have hlt2 : ¬ ((k : Int) + 1 < (n : Int)) := by omega
    clear HX HNO HYES h1
    go_wp2
    go_ret
    exact ⟨by rw [hct.out]; rfl, below_drewN (Below.refl _ _) _⟩

theorem okNums_yes {l : List Int} (h : ∀ i, i < l.length → 0 ≤ l.getD i 0 ∧ l.getD i 0 ≤ 1099511627776) : okNums l = risesB l := by
  unfold okNums
  rw [decide_eq_true h, Bool.true_and]

set_option maxRecDepth 100000 in
theorem l4Numbers_any (va : Value) (l : List Int) (w : World) (ha : Rd w va (cellsInt64S l)) (hl : l.length ≤ 1099511627776) :
    Calls Try.prog 25 #[va] w fun e w' => e = .returned (.bool (okNums l)) ∧ Below w.heap.size w w' := by
  have HRI := l1Rises_any va l w ha hl
  have hla : (cellsInt64S l).length = l.length := by simp
  obtain ⟨ao, cap, rfl, hcap, hx⟩ := ha
  rw [hla] at hcap hx ⊢
  have HX : Hid (∀ j, j < l.length → ∃ b off, ao = some ⟨b, off, none⟩ ∧ w.cell? ⟨b, off + j, none⟩ = some (.int .i64 (l.getD j 0))) := fun j hj => by
    obtain ⟨b, off, h1, h2, h3⟩ := hx (by intro h; rw [h] at hla; simp at hla; omega)
    exact ⟨b, off, h1, (h3 j hj).trans (ints_get _ l j hj)⟩
  have HNO : Hid (∀ i, i < l.length → ¬ (0 ≤ l.getD i 0 ∧ l.getD i 0 ≤ 1099511627776) → okNums l = false) := fun i a b => okNums_no a b
  have HYES : Hid ((∀ i, i < l.length → 0 ≤ l.getD i 0 ∧ l.getD i 0 ≤ 1099511627776) → okNums l = risesB l) := okNums_yes
  rw [hla] at HRI
  clear hx hla
  generalize okNums l = c at HNO HYES ⊢
  generalize risesB l = r at HRI HYES
  obtain ⟨n, hn⟩ : ∃ n, n = l.length := ⟨_, rfl⟩
  rw [← hn] at hcap HX HNO HYES hl HRI ⊢
  clear hn
  go_enter Try.func25, Try.ntmps25
  go_wp2
  go_loop [3] (fun i => ∃ k : Nat, i = .int .i64 k ∧ k ≤ n ∧ Hid (∀ m, m < k → 0 ≤ l.getD m 0 ∧ l.getD m 0 ≤ 1099511627776)) (fun i => n - (intOf i).toNat)
  case atStart => exact ⟨0, rfl, Nat.zero_le _, fun m h => by omega⟩
  case round =>
    obtain ⟨k, rfl, hk, h1⟩ := hrel
    by_cases hlt : k < n
    focus
      obtain ⟨b, off, rfl, hc⟩ := HX.out k hlt
      obtain ⟨x, hxx⟩ : ∃ x, x = l.getD k 0 := ⟨_, rfl⟩
      have HXX : Hid (x = l.getD k 0) := hxx
      rw [← hxx] at hc
      clear hxx
      by_cases hin : 0 ≤ x ∧ x ≤ 1099511627776
      · have hd : decide (0 ≤ x ∧ x ≤ 1099511627776) = true := decide_eq_true hin
        have h2 : Hid (∀ m, m < k + 1 → 0 ≤ l.getD m 0 ∧ l.getD m 0 ≤ 1099511627776) := fun m hm => by
          rcases Nat.lt_or_ge m k with h | h
          · exact h1.out m h
          · obtain rfl : m = k := by omega
            rw [← HXX.out]; exact hin
        clear hin
        go_wp2_with fail
        refine (l1In_any _ _ _ _).mono ?_
        rintro e w1 ⟨rfl, rfl⟩
        rw [hd]
        go_wp2
        go_round
        case rel => exact ⟨k + 1, by go_num, by omega, h2⟩
        case measure => simp [intOf]; omega
      · have hd : decide (0 ≤ x ∧ x ≤ 1099511627776) = false := decide_eq_false hin
        have hcf : Hid (c = false) := HNO.out k hlt (by rw [← HXX.out]; exact hin)
        clear hin
        go_wp2_with fail
        refine (l1In_any _ _ _ _).mono ?_
        rintro e w1 ⟨rfl, rfl⟩
        rw [hd]
        go_wp2
        go_ret
        exact ⟨by rw [hcf.out]; rfl, Below.refl _ _⟩
    have hcr : Hid (c = r) := HYES.out fun i hi => h1.out i (by omega)
    clear HX HNO HYES h1
    go_wp2_with fail
    refine HRI.mono ?_
    rintro e w1 ⟨rfl, hb1⟩
    clear HRI
    go_wp2
    go_ret
    exact ⟨by rw [hcr.out]; rfl, hb1⟩

set_option maxRecDepth 100000 in
theorem numbersRise_any (va : Value) (l : List Int) (w : World) (ha : Rd w va (cellsInt64S l)) (hl : l.length ≤ 1099511627776) :
    Calls Try.prog 23 #[va] w fun e w' => e = .returned (.bool (okNums l)) ∧ w' = w := by
  have hla : (cellsInt64S l).length = l.length := by simp
  obtain ⟨ao, cap, rfl, hcap, hx⟩ := ha
  rw [hla] at hcap hx ⊢
  have HX : Hid (∀ j, j < l.length → ∃ b off, ao = some ⟨b, off, none⟩ ∧ w.cell? ⟨b, off + j, none⟩ = some (.int .i64 (l.getD j 0))) := fun j hj => by
    obtain ⟨b, off, h1, h2, h3⟩ := hx (by intro h; rw [h] at hla; simp at hla; omega)
    exact ⟨b, off, h1, (h3 j hj).trans (ints_get _ l j hj)⟩
  have HNO : Hid (∀ i, i < l.length → ¬ (0 ≤ l.getD i 0 ∧ l.getD i 0 ≤ 1099511627776) → okNums l = false) := fun i a b => okNums_no a b
  have HNO2 : Hid (∀ i, i < l.length → 0 < i → ¬ l.getD (i - 1) 0 < l.getD i 0 → okNums l = false) := fun i a b c => okNums_no2 a b c
  have HYES : Hid ((∀ i, i < l.length → (0 ≤ l.getD i 0 ∧ l.getD i 0 ≤ 1099511627776) ∧ (0 < i → l.getD (i - 1) 0 < l.getD i 0)) → okNums l = true) := fun h => by
    rw [okNums_yes (fun i hi => (h i hi).1)]
    exact decide_eq_true (fun i hi h0 => (h i hi).2 h0)
  clear hx hla
  generalize okNums l = c at HNO HNO2 HYES ⊢
  obtain ⟨n, hn⟩ : ∃ n, n = l.length := ⟨_, rfl⟩
  rw [← hn] at hcap HX HNO HNO2 HYES hl ⊢
  clear hn
  go_enter Try.func23, Try.ntmps23
  go_wp2
  go_loop [3, 8] (fun q i => ∃ (k : Nat) (z : Int), i = .int .i64 k ∧ q = .int .i64 z ∧ k ≤ n ∧ -1 ≤ z ∧ Hid (k = 0 → z = -1) ∧ Hid (0 < k → z = l.getD (k - 1) 0) ∧ Hid (∀ m, m < k → (0 ≤ l.getD m 0 ∧ l.getD m 0 ≤ 1099511627776) ∧ (0 < m → l.getD (m - 1) 0 < l.getD m 0))) (fun _ i => n - (intOf i).toNat)
  case atStart => exact ⟨0, -1, rfl, rfl, Nat.zero_le _, by omega, fun _ => rfl, fun h => by omega, fun m h => by omega⟩
  case round =>
    obtain ⟨k, z, rfl, rfl, hk, hz, hz0, hz1, h1⟩ := hrel
    by_cases hlt : k < n
    focus
      obtain ⟨b, off, rfl, hc⟩ := HX.out k hlt
      obtain ⟨x, hxx⟩ : ∃ x, x = l.getD k 0 := ⟨_, rfl⟩
      have HXX : Hid (x = l.getD k 0) := hxx
      rw [← hxx] at hc
      clear hxx
      by_cases hle : x ≤ z
      · have hcf : Hid (c = false) := by
          rcases Nat.eq_zero_or_pos k with h | h
          · have := hz0.out h
            exact HNO.out k hlt (by rw [← HXX.out]; omega)
          · have := hz1.out h
            exact HNO2.out k hlt h (by rw [← HXX.out, ← this]; omega)
        clear HNO HNO2 HYES
        go_wp2
        go_ret
        exact ⟨by rw [hcf.out]; rfl, rfl⟩
      · by_cases hbg : 1099511627776 < x
        · have hcf : Hid (c = false) := HNO.out k hlt (by rw [← HXX.out]; omega)
          clear HNO HNO2 HYES
          go_wp2
          go_ret
          exact ⟨by rw [hcf.out]; rfl, rfl⟩
        · have h2 : Hid (∀ m, m < k + 1 → (0 ≤ l.getD m 0 ∧ l.getD m 0 ≤ 1099511627776) ∧ (0 < m → l.getD (m - 1) 0 < l.getD m 0)) := fun m hm => by
            rcases Nat.lt_or_ge m k with h | h
            · exact h1.out m h
            · obtain rfl : m = k := by omega
              rw [← HXX.out]
              exact ⟨by omega, fun h0 => by rw [← hz1.out h0]; omega⟩
          have h3 : Hid (0 < k + 1 → x = l.getD (k + 1 - 1) 0) := fun _ => by rw [Nat.add_sub_cancel]; exact HXX.out
          go_wp2
          go_round
          case rel => exact ⟨k + 1, x, by go_num, rfl, by omega, by omega, fun h => by omega, h3, h2⟩
          case measure => simp [intOf]; omega
    have hct : Hid (c = true) := HYES.out fun i hi => h1.out i (by omega)
    clear HX HNO HNO2 HYES h1 hz0 hz1
    go_wp2
    go_ret
    exact ⟨by rw [hct.out]; rfl, rfl⟩

theorem sharedT_bad (a b : List Int) (s : Int) (h : (okNums a && okNums b && decide (-1099511627776 ≤ s ∧ s ≤ 1099511627776)) = false) : sharedT a b s = -1 := by
  unfold sharedT
  rw [h]
  rfl
theorem sharedT_ok (a b : List Int) (s : Int) (h : (okNums a && okNums b && decide (-1099511627776 ≤ s ∧ s ≤ 1099511627776)) = true) : sharedT a b s = (cntN a b s : Int) := by
  unfold sharedT
  rw [if_pos h]

set_option maxHeartbeats 2000000 in
set_option maxRecDepth 100000 in
theorem specShared_any (va vb : Value) (a b : List Int) (s : Int) (w : World) (ha : Rd w va (cellsInt64S a)) (hb : Rd w vb (cellsInt64S b)) (hl1 : a.length ≤ 1099511627776) (hl2 : b.length ≤ 1099511627776) :
    Calls Try.prog 8 #[va, vb, .int .i64 s] w fun e w' => e = .returned (.int .i64 (sharedT a b s)) ∧ Below w.heap.size w w' := by
  cases hA : okNums a with
  | false =>
    rw [sharedT_bad a b s (by rw [hA]; rfl)]
    go_enter Try.func8, Try.ntmps8
    go_wp2_with fail
    refine (l4Numbers_any va a w ha hl1).mono ?_
    rintro e w2 ⟨rfl, hb2⟩
    rw [hA]
    go_wp2
    go_ret
    exact ⟨rfl, hb2⟩
  | true =>
    cases hBb : okNums b with
    | false =>
      rw [sharedT_bad a b s (by rw [hA, hBb]; rfl)]
      go_enter Try.func8, Try.ntmps8
      go_wp2_with fail
      refine (l4Numbers_any va a w ha hl1).mono ?_
      rintro e w2 ⟨rfl, hb2⟩
      rw [hA]
      go_wp2_with fail
      refine (l4Numbers_any vb b w2 (rd_below hb hb2) hl2).mono ?_
      rintro e w3 ⟨rfl, hb3⟩
      rw [hBb]
      have hB3 := hb2.trans (hb3.mono hb2.size)
      go_wp2
      go_ret
      exact ⟨rfl, hB3⟩
    | true =>
      by_cases hin : -1099511627776 ≤ s ∧ s ≤ 1099511627776
      rotate_left
      focus
        have hd : decide (-1099511627776 ≤ s ∧ s ≤ 1099511627776) = false := decide_eq_false hin
        rw [sharedT_bad a b s (by rw [hA, hBb, hd]; rfl)]
        clear hin
        go_enter Try.func8, Try.ntmps8
        go_wp2_with fail
        refine (l4Numbers_any va a w ha hl1).mono ?_
        rintro e w2 ⟨rfl, hb2⟩
        rw [hA]
        go_wp2_with fail
        refine (l4Numbers_any vb b w2 (rd_below hb hb2) hl2).mono ?_
        rintro e w3 ⟨rfl, hb3⟩
        rw [hBb]
        have hB3 := hb2.trans (hb3.mono hb2.size)
        go_wp2_with fail
        refine (l1In_any _ _ _ _).mono ?_
        rintro e w4 ⟨rfl, rfl⟩
        rw [hd]
        go_wp2
        go_ret
        exact ⟨rfl, hB3⟩
      have hd : decide (-1099511627776 ≤ s ∧ s ≤ 1099511627776) = true := decide_eq_true hin
      rw [sharedT_ok a b s (by rw [hA, hBb, hd]; rfl)]
      obtain ⟨hs0, hs1⟩ := hin
      go_enter Try.func8, Try.ntmps8
      go_wp2_with fail
      refine (l4Numbers_any va a w ha hl1).mono ?_
      rintro e w2 ⟨rfl, hb2⟩
      rw [hA]
      go_wp2_with fail
      refine (l4Numbers_any vb b w2 (rd_below hb hb2) hl2).mono ?_
      rintro e w3 ⟨rfl, hb3⟩
      rw [hBb]
      have hB3 := hb2.trans (hb3.mono hb2.size)
      have ha3 := rd_below (rd_below ha hb2) hb3
      have hb4 := rd_below (rd_below hb hb2) hb3
      go_wp2_with fail
      refine (l1In_any _ _ _ _).mono ?_
      rintro e w4 ⟨rfl, hw4⟩
      replace hw4 := hw4.symm
      subst hw4
      rw [hd]
      clear ha hb hb2 hb3 hd
      have hla : (cellsInt64S a).length = a.length := by simp
      obtain ⟨ao, cap, rfl, hcap, hx⟩ := ha3
      rw [hla] at hcap hx ⊢
      have HX : Hid (∀ j, j < a.length → ∃ q off, ao = some ⟨q, off, none⟩ ∧ w3.cell? ⟨q, off + j, none⟩ = some (.int .i64 (a.getD j 0))) := fun j hj => by
        obtain ⟨q, off, h1, h2, h3⟩ := hx (by intro h; rw [h] at hla; simp at hla; omega)
        exact ⟨q, off, h1, (h3 j hj).trans (ints_get _ a j hj)⟩
      have HR : Hid (∀ i, i < a.length → 0 ≤ a.getD i 0 ∧ a.getD i 0 ≤ 1099511627776) := fun i hi => okNums_range hA i hi
      have HS : Hid (∀ k, k < a.length → cntN (a.take (k + 1)) b s = cntN (a.take k) b s + if b.contains (a.getD k 0 + s) = true then 1 else 0) := fun k hk => cntN_succ a b s k hk
      have HALL : Hid (a.take a.length = a) := List.take_of_length_le (Nat.le_refl _)
      have HCL : Hid (∀ k, cntN (a.take k) b s ≤ k) := fun k => Nat.le_trans (List.length_filter_le _ _) (List.length_take_le _ _)
      clear hx hla
      obtain ⟨n, hn⟩ : ∃ n, n = a.length := ⟨_, rfl⟩
      rw [← hn] at hcap HX HR HS HALL hl1 ⊢
      clear hn
      go_wp2
      go_loop [7, 8] (fun q i => ∃ k m : Nat, i = .int .i64 k ∧ q = .int .i64 m ∧ k ≤ n ∧ m = cntN (a.take k) b s) (fun q i => n - (intOf i).toNat)
      case atStart => exact ⟨0, 0, rfl, rfl, Nat.zero_le _, rfl⟩
      case round =>
        obtain ⟨k, m, rfl, rfl, hk, hm⟩ := hrel
        have hml := HCL.out k
        rw [← hm] at hml
        by_cases hlt : k < n
        focus
          obtain ⟨q, off, rfl, hc⟩ := HX.out k hlt
          obtain ⟨hr0, hr1⟩ := HR.out k hlt
          have HS2 := HS.out k hlt
          rw [← hm] at HS2
          obtain ⟨x, hxx⟩ : ∃ x, x = a.getD k 0 := ⟨_, rfl⟩
          rw [← hxx] at hc hr0 hr1 HS2
          obtain ⟨y, hy⟩ : ∃ y, y = x + s := ⟨_, rfl⟩
          rw [← hy] at HS2
          have HH := l1Has_any vb b y w3 hb4 hl2
          generalize b.contains y = c at HS2 HH
          have HS3 : Hid (cntN (a.take (k + 1)) b s = m + if c = true then 1 else 0) := HS2
          clear HS2 hxx hm
          cases c
          all_goals
            rw [hy] at HH
            clear hy
            go_wp2_with fail
            refine HH.mono ?_
            rintro e w9 ⟨rfl, hw9⟩
            replace hw9 := hw9.symm
            subst hw9
            go_wp2
            go_round
            case rel => exact ⟨k + 1, _, by go_num, by go_num, by omega, by rw [HS3.out]; rfl⟩
            case measure => simp [intOf]; omega
        obtain rfl : k = n := by omega
        rw [HALL.out] at hm
        have HM : Hid (m = cntN a b s) := hm
        clear HX HR HS HCL hm
        go_wp2
        go_ret
        exact ⟨by rw [← HM.out]; rfl, hB3⟩

set_option maxHeartbeats 2000000 in
set_option maxRecDepth 100000 in
theorem implShared_any (va vb : Value) (a b : List Int) (s : Int) (w : World) (ha : Rd w va (cellsInt64S a)) (hb : Rd w vb (cellsInt64S b)) (hl1 : a.length ≤ 1099511627776) (hl2 : b.length ≤ 1099511627776) :
    Calls Try.prog 7 #[va, vb, .int .i64 s] w fun e w' => e = .returned (.int .i64 (sharedT a b s)) ∧ w' = w := by
  cases hA : okNums a with
  | false =>
    rw [sharedT_bad a b s (by rw [hA]; rfl)]
    go_enter Try.func7, Try.ntmps7
    go_wp2_with fail
    refine (numbersRise_any va a w ha hl1).mono ?_
    rintro e w2 ⟨rfl, rfl⟩
    rw [hA]
    go_wp2
    go_ret
    exact ⟨rfl, rfl⟩
  | true =>
    cases hBb : okNums b with
    | false =>
      rw [sharedT_bad a b s (by rw [hA, hBb]; rfl)]
      go_enter Try.func7, Try.ntmps7
      go_wp2_with fail
      refine (numbersRise_any va a w ha hl1).mono ?_
      rintro e w2 ⟨rfl, hw2⟩
      replace hw2 := hw2.symm
      subst hw2
      rw [hA]
      go_wp2_with fail
      refine (numbersRise_any vb b w hb hl2).mono ?_
      rintro e w3 ⟨rfl, hw3⟩
      replace hw3 := hw3.symm
      subst hw3
      rw [hBb]
      go_wp2
      go_ret
      exact ⟨rfl, rfl⟩
    | true =>
      by_cases hin : -1099511627776 ≤ s ∧ s ≤ 1099511627776
      rotate_left
      focus
        have hd : decide (-1099511627776 ≤ s ∧ s ≤ 1099511627776) = false := decide_eq_false hin
        rw [sharedT_bad a b s (by rw [hA, hBb, hd]; rfl)]
        clear hd
        by_cases hlo : s < -1099511627776
        focus clear hin
        rotate_left
        focus
          have hhi : 1099511627776 < s := by omega
          clear hin
        all_goals
          go_enter Try.func7, Try.ntmps7
          go_wp2_with fail
          refine (numbersRise_any va a w ha hl1).mono ?_
          rintro e w2 ⟨rfl, hw2⟩
          replace hw2 := hw2.symm
          subst hw2
          rw [hA]
          go_wp2_with fail
          refine (numbersRise_any vb b w hb hl2).mono ?_
          rintro e w3 ⟨rfl, hw3⟩
          replace hw3 := hw3.symm
          subst hw3
          rw [hBb]
          go_wp2
          go_ret
          exact ⟨rfl, rfl⟩
      have hd : decide (-1099511627776 ≤ s ∧ s ≤ 1099511627776) = true := decide_eq_true hin
      rw [sharedT_ok a b s (by rw [hA, hBb, hd]; rfl)]
      obtain ⟨hs0, hs1⟩ := hin
      clear hd
      go_enter Try.func7, Try.ntmps7
      go_wp2_with fail
      refine (numbersRise_any va a w ha hl1).mono ?_
      rintro e w2 ⟨rfl, hw2⟩
      replace hw2 := hw2.symm
      subst hw2
      rw [hA]
      go_wp2_with fail
      refine (numbersRise_any vb b w hb hl2).mono ?_
      rintro e w3 ⟨rfl, hw3⟩
      replace hw3 := hw3.symm
      subst hw3
      rw [hBb]
      have hla : (cellsInt64S a).length = a.length := by simp
      obtain ⟨ao, cap, rfl, hcap, hx⟩ := ha
      rw [hla] at hcap hx ⊢
      have HX : Hid (∀ j, j < a.length → ∃ q off, ao = some ⟨q, off, none⟩ ∧ w.cell? ⟨q, off + j, none⟩ = some (.int .i64 (a.getD j 0))) := fun j hj => by
        obtain ⟨q, off, h1, h2, h3⟩ := hx (by intro h; rw [h] at hla; simp at hla; omega)
        exact ⟨q, off, h1, (h3 j hj).trans (ints_get _ a j hj)⟩
      have HR : Hid (∀ i, i < a.length → 0 ≤ a.getD i 0 ∧ a.getD i 0 ≤ 1099511627776) := fun i hi => okNums_range hA i hi
      have HS : Hid (∀ k, k < a.length → cntN (a.take (k + 1)) b s = cntN (a.take k) b s + if b.contains (a.getD k 0 + s) = true then 1 else 0) := fun k hk => cntN_succ a b s k hk
      have HALL : Hid (a.take a.length = a) := List.take_of_length_le (Nat.le_refl _)
      have HCL : Hid (∀ k, cntN (a.take k) b s ≤ k) := fun k => Nat.le_trans (List.length_filter_le _ _) (List.length_take_le _ _)
      clear hx hla
      obtain ⟨n, hn⟩ : ∃ n, n = a.length := ⟨_, rfl⟩
      rw [← hn] at hcap HX HR HS HALL hl1 ⊢
      clear hn
      go_wp2
      go_loop [7, 30] (fun q i => ∃ k m : Nat, i = .int .i64 k ∧ q = .int .i64 m ∧ k ≤ n ∧ m = cntN (a.take k) b s) (fun q i => n - (intOf i).toNat)
      case atStart => exact ⟨0, 0, rfl, rfl, Nat.zero_le _, rfl⟩
      case round =>
        obtain ⟨k, m, rfl, rfl, hk, hm⟩ := hrel
        have hml := HCL.out k
        rw [← hm] at hml
        by_cases hlt : k < n
        focus
          obtain ⟨q, off, rfl, hc⟩ := HX.out k hlt
          obtain ⟨hr0, hr1⟩ := HR.out k hlt
          have HS2 := HS.out k hlt
          rw [← hm] at HS2
          obtain ⟨x, hxx⟩ : ∃ x, x = a.getD k 0 := ⟨_, rfl⟩
          rw [← hxx] at hc hr0 hr1 HS2
          obtain ⟨y, hy⟩ : ∃ y, y = x + s := ⟨_, rfl⟩
          rw [← hy] at HS2
          have HH := search_any vb b y w hb hl2 (okNums_rises hBb)
          generalize b.contains y = c at HS2 HH
          have HS3 : Hid (cntN (a.take (k + 1)) b s = m + if c = true then 1 else 0) := HS2
          clear HS2 hxx hm
          cases c
          all_goals
            rw [hy] at HH
            clear hy
            go_wp2_with fail
            refine HH.mono ?_
            rintro e w9 ⟨ix, rfl, hw9⟩
            replace hw9 := hw9.symm
            subst hw9
            go_wp2
            go_round
            case rel => exact ⟨k + 1, _, by go_num, by go_num, by omega, by rw [HS3.out]; rfl⟩
            case measure => simp [intOf]; omega
        obtain rfl : k = n := by omega
        rw [HALL.out] at hm
        have HM : Hid (m = cntN a b s) := hm
        clear HX HR HS HCL hm
        go_wp2
        go_ret
        exact ⟨by rw [← HM.out]; rfl, rfl⟩

end Go.Proofs.Ytndecefcnalgdab
