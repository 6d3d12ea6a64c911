/- Rising lists of numbers; CONTRACTS: spec's l1Rises, impl's numbersRise. -/
import Derived.Test.YtfoncmeplofedaqDoorRoll
import Derived.Deep.RegionHeld
namespace Go.Proofs.YtfoncmeplofedaqDoor
open Go.RowKit

def risesB (l : List Int) : Bool := decide (∀ i, i < l.length → 0 < i → l.getD (i - 1) 0 < l.getD i 0)
/-- a rising list of numbers that Number takes -/
def okNums (l : List Int) : Bool := decide (∀ i, i < l.length → 0 ≤ l.getD i 0 ∧ l.getD i 0 ≤ 1099511627776) && risesB l
theorem rises_mono {l : List Int} (h : risesB l = true) (p : Nat) : ∀ d, p + d < l.length → l.getD p 0 ≤ l.getD (p + d) 0 := by
  have h1 := of_decide_eq_true h
  intro d
  induction d with
  | zero => intro _; exact Int.le_refl _
  | succ d ih =>
    intro hd
    have h2 := ih (by omega)
    have h3 := h1 (p + (d + 1)) hd (by omega)
    rw [show p + (d + 1) - 1 = p + d by omega] at h3
    omega
theorem rises_le {l : List Int} (h : risesB l = true) {p q : Nat} (h1 : p ≤ q) (h2 : q < l.length) : l.getD p 0 ≤ l.getD q 0 := by
  have := rises_mono h p (q - p) (by omega)
  rwa [show p + (q - p) = q by omega] at this
theorem okNums_range {l : List Int} (h : okNums l = true) (i : Nat) (hi : i < l.length) : 0 ≤ l.getD i 0 ∧ l.getD i 0 ≤ 1099511627776 := by
  unfold okNums at h
  simp only [Bool.and_eq_true, decide_eq_true_eq] at h
  exact h.1 i hi
theorem okNums_rises {l : List Int} (h : okNums l = true) : risesB l = true := by
  unfold okNums at h
  simp only [Bool.and_eq_true] at h
  exact h.2
theorem okNums_no {l : List Int} {i : Nat} (hi : i < l.length) (h : ¬ (0 ≤ l.getD i 0 ∧ l.getD i 0 ≤ 1099511627776)) : okNums l = false := by
  cases hk : okNums l
  · rfl
  · exact absurd (okNums_range hk i hi) h
theorem risesB_no {l : List Int} {i : Nat} (hi : i < l.length) (h0 : 0 < i) (h : ¬ l.getD (i - 1) 0 < l.getD i 0) : risesB l = false :=
  decide_eq_false fun hk => h (hk i hi h0)
theorem okNums_no2 {l : List Int} {i : Nat} (hi : i < l.length) (h0 : 0 < i) (h : ¬ l.getD (i - 1) 0 < l.getD i 0) : okNums l = false := by
  unfold okNums
  rw [risesB_no hi h0 h, Bool.and_false]

set_option maxRecDepth 100000 in
theorem l1Rises_any (va : Value) (l : List Int) (w : World) (ha : Rd w va (cellsInt64S l)) (hl : l.length ≤ 1099511627776) :
    Calls Tryd.prog 41 #[va] w fun e w' => e = .returned (.bool (risesB l)) ∧ Below w.heap.size w w' := by
  have hla : (cellsInt64S l).length = l.length := by simp
  obtain ⟨ao, cap, rfl, hcap, hx⟩ := ha
  rw [hla] at hcap hx ⊢
  have HX : Hid (0 < l.length → ∃ b off, ao = some ⟨b, off, none⟩ ∧ ∀ j, j < l.length → w.cell? ⟨b, off + j, none⟩ = some (.int .i64 (l.getD j 0))) := fun hp => by
    obtain ⟨b, off, h1, h2, h3⟩ := hx (by intro h; rw [h] at hla; simp at hla; omega)
    exact ⟨b, off, h1, fun j hj => (h3 j hj).trans (ints_get _ l j hj)⟩
  have HNO : Hid (∀ i, i < l.length → 0 < i → ¬ l.getD (i - 1) 0 < l.getD i 0 → risesB l = false) := fun i a b c => risesB_no a b c
  have HYES : Hid ((∀ i, i < l.length → 0 < i → l.getD (i - 1) 0 < l.getD i 0) → risesB l = true) := fun h => decide_eq_true h
  clear hx hla
  generalize risesB l = c at HNO HYES ⊢
  obtain ⟨n, hn⟩ : ∃ n, n = l.length := ⟨_, rfl⟩
  rw [← hn] at hcap HX HNO HYES hl ⊢
  clear hn
  go_enter Tryd.func41, Tryd.ntmps41
  go_wp2
  go_loopw [3] (fun i wr => ∃ k d : Nat, i = .int .i64 ((k : Int) + 1) ∧ (k ≤ n) ∧ wr = w.drewN d ∧ Hid (∀ m, m ≤ k → m < n → 0 < m → l.getD (m - 1) 0 < l.getD m 0)) (fun i _ => n + 1 - (intOf i).toNat)
  case atStart => exact ⟨0, 0, rfl, Nat.zero_le _, rfl, fun m h1 h2 h3 => by omega⟩
  case round =>
    obtain ⟨k, d, rfl, hk, rfl, h1⟩ := hrel
    by_cases hlt : k + 1 < n
    focus
      obtain ⟨b, off, rfl, hc⟩ := HX.out (by omega)
      have hc1 := hc (k + 1) hlt
      have hc0 := hc k (by omega)
      obtain ⟨x, hxx⟩ : ∃ x, x = l.getD k 0 := ⟨_, rfl⟩
      obtain ⟨y, hyy⟩ : ∃ y, y = l.getD (k + 1) 0 := ⟨_, rfl⟩
      have HXX : Hid (x = l.getD k 0) := hxx
      have HYY : Hid (y = l.getD (k + 1) 0) := hyy
      rw [← hxx] at hc0
      rw [← hyy] at hc1
      have hkn : k < n := by omega
      clear hxx hyy hc HX
      by_cases hle : y ≤ x
      · have hcf : Hid (c = false) := HNO.out (k + 1) hlt (by omega) (by rw [Nat.add_sub_cancel, ← HXX.out, ← HYY.out]; omega)
        clear HNO HYES
        go_wp2
        go_quiet (fail)
        go_wp2
        go_ret
        exact ⟨by rw [hcf.out]; rfl, below_drewN (below_drewN (Below.refl _ _) _) _⟩
      · go_wp2
        go_quiet (fail)
        go_wp2
        go_roundw
        case rel => exact ⟨k + 1, _, by go_num, by omega, rfl, fun m hm h2 h3 => by
          rcases Nat.lt_or_ge k m with h | h
          · obtain rfl : m = k + 1 := by omega
            rw [Nat.add_sub_cancel, ← HXX.out, ← HYY.out]; omega
          · exact h1.out m h h2 h3⟩
        case measure => simp [intOf]; omega
    have hct : Hid (c = true) := HYES.out fun i a b => h1.out i (by omega) a b
    have hlt2 : ¬ ((k : Int) + 1 < (n : Int)) := by omega
    clear HX HNO HYES h1
    go_wp2
    go_ret
    exact ⟨by rw [hct.out]; rfl, below_drewN (Below.refl _ _) _⟩

theorem okNums_yes {l : List Int} (h : ∀ i, i < l.length → 0 ≤ l.getD i 0 ∧ l.getD i 0 ≤ 1099511627776) : okNums l = risesB l := by
  unfold okNums
  rw [decide_eq_true h, Bool.true_and]

set_option maxRecDepth 100000 in
theorem numbersRise_any (va : Value) (l : List Int) (w : World) (ha : Rd w va (cellsInt64S l)) (hl : l.length ≤ 1099511627776) :
    Calls Tryd.prog 47 #[va] w fun e w' => e = .returned (.bool (okNums l)) ∧ w' = w := by
  have hla : (cellsInt64S l).length = l.length := by simp
  obtain ⟨ao, cap, rfl, hcap, hx⟩ := ha
  rw [hla] at hcap hx ⊢
  have HX : Hid (∀ j, j < l.length → ∃ b off, ao = some ⟨b, off, none⟩ ∧ w.cell? ⟨b, off + j, none⟩ = some (.int .i64 (l.getD j 0))) := fun j hj => by
    obtain ⟨b, off, h1, h2, h3⟩ := hx (by intro h; rw [h] at hla; simp at hla; omega)
    exact ⟨b, off, h1, (h3 j hj).trans (ints_get _ l j hj)⟩
  have HNO : Hid (∀ i, i < l.length → ¬ (0 ≤ l.getD i 0 ∧ l.getD i 0 ≤ 1099511627776) → okNums l = false) := fun i a b => okNums_no a b
  have HNO2 : Hid (∀ i, i < l.length → 0 < i → ¬ l.getD (i - 1) 0 < l.getD i 0 → okNums l = false) := fun i a b c => okNums_no2 a b c
  have HYES : Hid ((∀ i, i < l.length → (0 ≤ l.getD i 0 ∧ l.getD i 0 ≤ 1099511627776) ∧ (0 < i → l.getD (i - 1) 0 < l.getD i 0)) → okNums l = true) := fun h => by
    rw [okNums_yes (fun i hi => (h i hi).1)]
    exact decide_eq_true (fun i hi h0 => (h i hi).2 h0)
  clear hx hla
  generalize okNums l = c at HNO HNO2 HYES ⊢
  obtain ⟨n, hn⟩ : ∃ n, n = l.length := ⟨_, rfl⟩
  rw [← hn] at hcap HX HNO HNO2 HYES hl ⊢
  clear hn
  go_enter Tryd.func47, Tryd.ntmps47
  go_wp2
  go_loop [3, 8] (fun q i => ∃ (k : Nat) (z : Int), i = .int .i64 k ∧ q = .int .i64 z ∧ k ≤ n ∧ -1 ≤ z ∧ Hid (k = 0 → z = -1) ∧ Hid (0 < k → z = l.getD (k - 1) 0) ∧ Hid (∀ m, m < k → (0 ≤ l.getD m 0 ∧ l.getD m 0 ≤ 1099511627776) ∧ (0 < m → l.getD (m - 1) 0 < l.getD m 0))) (fun _ i => n - (intOf i).toNat)
  case atStart => exact ⟨0, -1, rfl, rfl, Nat.zero_le _, by omega, fun _ => rfl, fun h => by omega, fun m h => by omega⟩
  case round =>
    obtain ⟨k, z, rfl, rfl, hk, hz, hz0, hz1, h1⟩ := hrel
    by_cases hlt : k < n
    focus
      obtain ⟨b, off, rfl, hc⟩ := HX.out k hlt
      obtain ⟨x, hxx⟩ : ∃ x, x = l.getD k 0 := ⟨_, rfl⟩
      have HXX : Hid (x = l.getD k 0) := hxx
      rw [← hxx] at hc
      clear hxx
      by_cases hle : x ≤ z
      · have hcf : Hid (c = false) := by
          rcases Nat.eq_zero_or_pos k with h | h
          · have := hz0.out h
            exact HNO.out k hlt (by rw [← HXX.out]; omega)
          · have := hz1.out h
            exact HNO2.out k hlt h (by rw [← HXX.out, ← this]; omega)
        clear HNO HNO2 HYES
        go_wp2
        go_ret
        exact ⟨by rw [hcf.out]; rfl, rfl⟩
      · by_cases hbg : 1099511627776 < x
        · have hcf : Hid (c = false) := HNO.out k hlt (by rw [← HXX.out]; omega)
          clear HNO HNO2 HYES
          go_wp2
          go_ret
          exact ⟨by rw [hcf.out]; rfl, rfl⟩
        · have h2 : Hid (∀ m, m < k + 1 → (0 ≤ l.getD m 0 ∧ l.getD m 0 ≤ 1099511627776) ∧ (0 < m → l.getD (m - 1) 0 < l.getD m 0)) := fun m hm => by
            rcases Nat.lt_or_ge m k with h | h
            · exact h1.out m h
            · obtain rfl : m = k := by omega
              rw [← HXX.out]
              exact ⟨by omega, fun h0 => by rw [← hz1.out h0]; omega⟩
          have h3 : Hid (0 < k + 1 → x = l.getD (k + 1 - 1) 0) := fun _ => by rw [Nat.add_sub_cancel]; exact HXX.out
          go_wp2
          go_round
          case rel => exact ⟨k + 1, x, by go_num, rfl, by omega, by omega, fun h => by omega, h3, h2⟩
          case measure => simp [intOf]; omega
    have hct : Hid (c = true) := HYES.out fun i hi => h1.out i (by omega)
    clear HX HNO HNO2 HYES h1 hz0 hz1
    go_wp2
    go_ret
    exact ⟨by rw [hct.out]; rfl, rfl⟩
end Go.Proofs.YtfoncmeplofedaqDoor
