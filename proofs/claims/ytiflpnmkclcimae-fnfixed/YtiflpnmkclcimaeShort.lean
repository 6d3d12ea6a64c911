/- CONTRACTS: counts and lengths: the specification's l5Counts, l5Lengths, Cost, Kraft. -/
import Derived.Test.YtiflpnmkclcimaeCodeMath
import Derived.Test.YtiflpnmkclcimaeRoll
namespace Go.Proofs.Ytiflpnmkclcimae
open Go.RowKit

def allIn (l : List Int) (hi : Int) : Bool := decide (1 ≤ l.length ∧ l.length ≤ 32) && decide (∀ i, i < l.length → 1 ≤ l.getD i 0 ∧ l.getD i 0 ≤ hi)
theorem allIn_no {l : List Int} {hi : Int} {i : Nat} (h : i < l.length) (k : ¬ (1 ≤ l.getD i 0 ∧ l.getD i 0 ≤ hi)) : allIn l hi = false := by
  unfold allIn
  rw [decide_eq_false (p := ∀ i, i < l.length → 1 ≤ l.getD i 0 ∧ l.getD i 0 ≤ hi) (fun a => k (a i h)), Bool.and_false]
theorem allIn_len {l : List Int} {hi : Int} (h : ¬ (1 ≤ l.length ∧ l.length ≤ 32)) : allIn l hi = false := by
  unfold allIn
  rw [decide_eq_false h, Bool.false_and]
theorem allIn_yes {l : List Int} {hi : Int} (h : 1 ≤ l.length ∧ l.length ≤ 32) (k : ∀ i, i < l.length → 1 ≤ l.getD i 0 ∧ l.getD i 0 ≤ hi) : allIn l hi = true := by
  unfold allIn
  rw [decide_eq_true h, decide_eq_true k]
  rfl
theorem allIn_out {l : List Int} {hi : Int} (h : allIn l hi = true) : (1 ≤ l.length ∧ l.length ≤ 32) ∧ ∀ i, i < l.length → 1 ≤ l.getD i 0 ∧ l.getD i 0 ≤ hi := by
  unfold allIn at h
  rw [Bool.and_eq_true] at h
  exact ⟨of_decide_eq_true h.1, of_decide_eq_true h.2⟩
/-- the sum of counts times lengths -/
def costN (c l : List Int) (k : Nat) : Int := ((List.range k).map fun i => c.getD i 0 * l.getD i 0).sum
theorem costN_succ (c l : List Int) (k : Nat) : costN c l (k + 1) = costN c l k + c.getD k 0 * l.getD k 0 := by
  unfold costN
  rw [List.range_succ, List.map_append, List.sum_append]
  simp
def costT (c l : List Int) : Int := if (allIn c 100000 && allIn l 40 && decide (l.length = c.length)) = true then costN c l c.length else -1
/-- the sum of 1 / 2^length, in 2^40ths -/
def kraftK (l : List Int) (k : Nat) : Nat := Huff.kraftF 40 (fun i => (l.getD i 0).toNat) k
theorem kraftK_succ (l : List Int) (k : Nat) : kraftK l (k + 1) = kraftK l k + 2 ^ (40 - (l.getD k 0).toNat) := by
  unfold kraftK Huff.kraftF
  rw [List.range_succ, List.map_append, List.sum_append]
  simp
def kraftB (l : List Int) : Bool := allIn l 40 && decide (kraftK l l.length ≤ 1099511627776)

set_option maxRecDepth 100000 in
theorem l5Counts_any (va : Value) (l : List Int) (w : World) (ha : Rd w va (cellsInt64S l)) (hl : l.length ≤ 1099511627776) :
    Calls Try.prog 33 #[va] w fun e w' => e = .returned (.bool (allIn l 100000)) ∧ w' = w := by
  have hla : (cellsInt64S l).length = l.length := by simp
  obtain ⟨ao, cap, rfl, hcap, hx⟩ := ha
  rw [hla] at hcap hx ⊢
  have HX : Hid (∀ j, j < l.length → ∃ b off, ao = some ⟨b, off, none⟩ ∧ w.cell? ⟨b, off + j, none⟩ = some (.int .i64 (l.getD j 0))) := fun j hj => by
    obtain ⟨b, off, h1, h2, h3⟩ := hx (by intro h; rw [h] at hla; simp at hla; omega)
    exact ⟨b, off, h1, (h3 j hj).trans (ints_get _ l j hj)⟩
  have HNO : Hid (∀ i, i < l.length → ¬ (1 ≤ l.getD i 0 ∧ l.getD i 0 ≤ 100000) → allIn l 100000 = false) := fun i a b => allIn_no a b
  have HYES : Hid ((1 ≤ l.length ∧ l.length ≤ 32) → (∀ i, i < l.length → 1 ≤ l.getD i 0 ∧ l.getD i 0 ≤ 100000) → allIn l 100000 = true) := fun a b => allIn_yes a b
  have HLEN : Hid (¬ (1 ≤ l.length ∧ l.length ≤ 32) → allIn l 100000 = false) := allIn_len
  clear hx hla
  generalize allIn l 100000 = c at HNO HYES HLEN ⊢
  obtain ⟨n, hn⟩ : ∃ n, n = l.length := ⟨_, rfl⟩
  rw [← hn] at hcap HX HNO HYES HLEN hl ⊢
  clear hn
  by_cases h0 : n < 1
  · have hcf := HLEN.out (by omega)
    subst hcf
    have hI : (n : Int) < 1 := by omega
    clear HX HNO HYES HLEN
    go_enter Try.func33, Try.ntmps33
    go_wp2
    go_ret
    exact ⟨rfl, rfl⟩
  by_cases h32 : 32 < n
  · have hcf := HLEN.out (by omega)
    subst hcf
    have hI : 32 < (n : Int) := by omega
    have hI0 : ¬ (n : Int) < 1 := by omega
    clear HX HNO HYES HLEN
    go_enter Try.func33, Try.ntmps33
    go_wp2
    go_ret
    exact ⟨rfl, rfl⟩
  have hI : ¬ 32 < (n : Int) := by omega
  have hI0 : ¬ (n : Int) < 1 := by omega
  have HY := HYES.out (by omega)
  have HYES2 : Hid ((∀ i, i < n → 1 ≤ l.getD i 0 ∧ l.getD i 0 ≤ 100000) → c = true) := HY
  clear HYES HLEN HY
  go_enter Try.func33, Try.ntmps33
  go_wp2
  go_loop [3] (fun i => ∃ k : Nat, i = .int .i64 k ∧ k ≤ n ∧ Hid (∀ m, m < k → 1 ≤ l.getD m 0 ∧ l.getD m 0 ≤ 100000)) (fun i => n - (intOf i).toNat)
  case atStart => exact ⟨0, rfl, Nat.zero_le _, fun m h => by omega⟩
  case round =>
    obtain ⟨k, rfl, hk, h1⟩ := hrel
    by_cases hlt : k < n
    focus
      obtain ⟨b, off, rfl, hc⟩ := HX.out k hlt
      obtain ⟨x, hxx⟩ : ∃ x, x = l.getD k 0 := ⟨_, rfl⟩
      have HXX : Hid (x = l.getD k 0) := hxx
      rw [← hxx] at hc
      clear hxx
      by_cases hin : 1 ≤ x ∧ x ≤ 100000
      · have hd : decide (1 ≤ x ∧ x ≤ 100000) = true := decide_eq_true hin
        have h2 : Hid (∀ m, m < k + 1 → 1 ≤ l.getD m 0 ∧ l.getD m 0 ≤ 100000) := fun m hm => by
          rcases Nat.lt_or_ge m k with h | h
          · exact h1.out m h
          · obtain rfl : m = k := by omega
            rw [← HXX.out]; exact hin
        clear hin
        go_wp2_with fail
        refine (l1In_any _ _ _ _).mono ?_
        rintro e w1 ⟨rfl, rfl⟩
        rw [hd]
        go_wp2
        go_round
        case rel => exact ⟨k + 1, by go_num, by omega, h2⟩
        case measure => simp [intOf]; omega
      · have hd : decide (1 ≤ x ∧ x ≤ 100000) = false := decide_eq_false hin
        have hcf : Hid (c = false) := HNO.out k hlt (by rw [← HXX.out]; exact hin)
        clear hin
        go_wp2_with fail
        refine (l1In_any _ _ _ _).mono ?_
        rintro e w1 ⟨rfl, rfl⟩
        rw [hd]
        go_wp2
        go_ret
        exact ⟨by rw [hcf.out]; rfl, rfl⟩
    have hct : Hid (c = true) := HYES2.out fun i hi => h1.out i (by omega)
    clear HX HNO HYES2 h1
    go_wp2
    go_ret
    exact ⟨by rw [hct.out]; rfl, rfl⟩


theorem costN_in {c l : List Int} (hc : allIn c 100000 = true) (hl : allIn l 40 = true) : ∀ k, k ≤ c.length → k ≤ l.length → 0 ≤ costN c l k ∧ costN c l k ≤ (k : Int) * 4000000 := by
  intro k
  induction k with
  | zero => intro _ _; exact ⟨by simp [costN], by simp [costN]⟩
  | succ k ih =>
    intro h1 h2
    obtain ⟨h3, h4⟩ := ih (by omega) (by omega)
    rw [costN_succ]
    obtain ⟨h5, h6⟩ := (allIn_out hc).2 k (by omega)
    obtain ⟨h7, h8⟩ := (allIn_out hl).2 k (by omega)
    have h9 : 0 ≤ c.getD k 0 * l.getD k 0 := Int.mul_nonneg (by omega) (by omega)
    have h10 : c.getD k 0 * l.getD k 0 ≤ 100000 * 40 := Int.mul_le_mul h6 h8 (by omega) (by omega)
    omega
theorem costT_no {c l : List Int} (h : ¬ (allIn c 100000 = true ∧ allIn l 40 = true ∧ l.length = c.length)) : costT c l = -1 := by
  unfold costT
  rw [if_neg]
  intro k
  rw [Bool.and_eq_true, Bool.and_eq_true, decide_eq_true_eq] at k
  exact h ⟨k.1.1, k.1.2, k.2⟩
theorem costT_yes {c l : List Int} (h1 : allIn c 100000 = true) (h2 : allIn l 40 = true) (h3 : l.length = c.length) : costT c l = costN c l c.length := by
  unfold costT
  rw [if_pos (by rw [h1, h2, decide_eq_true h3]; rfl)]


theorem kraftK_in {l : List Int} (hl : allIn l 40 = true) : ∀ k, k ≤ l.length → kraftK l k ≤ k * 549755813888 := by
  intro k
  induction k with
  | zero => intro _; simp [kraftK, Huff.kraftF]
  | succ k ih =>
    intro h
    have h1 := ih (by omega)
    have h2 := (allIn_out hl).2 k (by omega)
    rw [kraftK_succ]
    have : 2 ^ (40 - (l.getD k 0).toNat) ≤ 2 ^ 39 := Nat.pow_le_pow_right (by omega) (by omega)
    omega
theorem shl_one {x : Int} (h1 : 1 ≤ x) (h2 : x ≤ 40) : wrap64 (2 ^ (40 - x).toNat) = ((2 ^ (40 - x.toNat) : Nat) : Int) ∧ 1 ≤ 2 ^ (40 - x.toNat) ∧ 2 ^ (40 - x.toNat) ≤ 549755813888 := by
  have h3 : 2 ^ (40 - x.toNat) ≤ 2 ^ 39 := Nat.pow_le_pow_right (by omega) (by omega)
  have h4 : 1 ≤ 2 ^ (40 - x.toNat) := Nat.two_pow_pos _
  refine ⟨?_, h4, h3⟩
  rw [show (40 - x).toNat = 40 - x.toNat by omega]
  have e : (2 : Int) ^ (40 - x.toNat) = ((2 ^ (40 - x.toNat) : Nat) : Int) := by rw [Int.natCast_pow]; rfl
  rw [e, IntWalk.wrap64_in _ ⟨by omega, by omega⟩]


end Go.Proofs.Ytiflpnmkclcimae
