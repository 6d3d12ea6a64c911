/- CONTRACTS: cmp.Compare of two numbers. Where a number is, or would be, in a row that rises (Plc), told over any row's numbers. -/
import Derived.Test.YtfoncmeplofedaeBasis
import Derived.Lib.Hide
namespace Go.Proofs.Ytfoncmeplofedae
open Go.RowKit
set_option linter.unusedVariables false
def cmpI (x y : Int) : Int := if x < y then -1 else if y < x then 1 else 0
theorem cmpI_neg {x y : Int} : cmpI x y < 0 ↔ x < y := by
  unfold cmpI
  by_cases h : x < y
  · rw [if_pos h]; simp [h]
  · rw [if_neg h]
    by_cases h2 : y < x
    · rw [if_pos h2]; simp [h]
    · rw [if_neg h2]; simp [h]
theorem cmpI_zero {x y : Int} : cmpI x y = 0 ↔ x = y := by
  unfold cmpI
  by_cases h : x < y
  · rw [if_pos h]; omega
  · rw [if_neg h]
    by_cases h2 : y < x
    · rw [if_pos h2]; omega
    · rw [if_neg h2]; omega
theorem isNaN_any (x : Int) (w : World) : Calls Try.prog 86 #[.int .i64 x] w fun e w' => e = .returned (.bool false) ∧ w' = w := by
  go_enter Try.func86, Try.ntmps86
  go_wp2
  go_ret
  exact ⟨by simp, rfl⟩
theorem compare_any (x y : Int) (w : World) : Calls Try.prog 82 #[.int .i64 x, .int .i64 y] w fun e w' => e = .returned (.int .i64 (cmpI x y)) ∧ w' = w := by
  obtain ⟨r, hr⟩ : ∃ r, r = cmpI x y := ⟨_, rfl⟩
  rw [← hr]
  by_cases h1 : x < y
  · have e : r = -1 := by rw [hr]; unfold cmpI; rw [if_pos h1]
    subst e
    clear hr
    go_enter Try.func82, Try.ntmps82
    go_wp2_with fail
    refine (isNaN_any x _).mono ?_
    rintro e w8 ⟨rfl, rfl⟩
    go_wp2_with fail
    refine (isNaN_any y _).mono ?_
    rintro e w7 ⟨rfl, rfl⟩
    go_wp2
    go_ret
    exact ⟨rfl, rfl⟩
  · by_cases h2 : y < x
    · have e : r = 1 := by rw [hr]; unfold cmpI; rw [if_neg h1, if_pos h2]
      subst e
      clear hr
      go_enter Try.func82, Try.ntmps82
      go_wp2_with fail
      refine (isNaN_any x _).mono ?_
      rintro e w8 ⟨rfl, rfl⟩
      go_wp2_with fail
      refine (isNaN_any y _).mono ?_
      rintro e w7 ⟨rfl, rfl⟩
      go_wp2
      go_ret
      exact ⟨rfl, rfl⟩
    · have e : r = 0 := by rw [hr]; unfold cmpI; rw [if_neg h1, if_neg h2]
      subst e
      clear hr
      go_enter Try.func82, Try.ntmps82
      go_wp2_with fail
      refine (isNaN_any x _).mono ?_
      rintro e w8 ⟨rfl, rfl⟩
      go_wp2_with fail
      refine (isNaN_any y _).mono ?_
      rintro e w7 ⟨rfl, rfl⟩
      go_wp2
      go_ret
      exact ⟨rfl, rfl⟩
theorem ret_boolR {a b : Bool} (h : a = b) : Ending.returned (.bool a) = .returned (.bool b) := by rw [h]
/-- a row's numbers (so many of them) rise -/
def RiseN (N : Nat → Int) (n : Nat) : Prop := ∀ i, i < n → 0 < i → N (i - 1) < N i
def riseN (N : Nat → Int) (n : Nat) : Bool := (List.range n).all fun i => decide (i = 0) || decide (N (i - 1) < N i)
theorem riseN_iff {N : Nat → Int} {n : Nat} : riseN N n = true ↔ RiseN N n := by
  unfold riseN RiseN
  rw [List.all_eq_true]
  constructor
  · intro h i hi h0
    have h2 := h i (List.mem_range.2 hi)
    rw [Bool.or_eq_true, decide_eq_true_eq, decide_eq_true_eq] at h2
    rcases h2 with h2 | h2
    · omega
    · exact h2
  · intro h i hi
    rw [Bool.or_eq_true, decide_eq_true_eq, decide_eq_true_eq]
    by_cases h0 : i = 0
    · exact Or.inl h0
    · exact Or.inr (h i (List.mem_range.1 hi) (by omega))
theorem riseN_no {N : Nat → Int} {n i : Nat} (hi : i < n) (h0 : 0 < i) (h : ¬ N (i - 1) < N i) : riseN N n = false := by
  cases hs : riseN N n with
  | false => rfl
  | true => exact absurd (riseN_iff.1 hs i hi h0) h
theorem riseN_lt {N : Nat → Int} {n : Nat} (h : RiseN N n) : ∀ {a b : Nat}, a < b → b < n → N a < N b := by
  intro a b hab hb
  induction b with
  | zero => omega
  | succ b ih =>
    have h1 := h (b + 1) hb (by omega)
    rw [Nat.add_sub_cancel] at h1
    rcases Nat.lt_or_ge a b with g | g
    · have h2 := ih g (by omega); omega
    · obtain rfl : a = b := by omega
      exact h1
theorem riseN_le {N : Nat → Int} {n : Nat} (h : RiseN N n) {a b : Nat} (hab : a ≤ b) (hb : b < n) : N a ≤ N b := by
  rcases Nat.lt_or_ge a b with g | g
  · have := riseN_lt h g hb; omega
  · obtain rfl : a = b := by omega
    exact Int.le_refl _
/-- where a number is, or would be -/
def PlcN (N : Nat → Int) (n : Nat) (d : Int) (k : Nat) (fd : Bool) : Prop := k ≤ n ∧ (∀ j, j < k → N j < d) ∧ (∀ j, k ≤ j → j < n → d ≤ N j) ∧ fd = (decide (k < n) && decide (N k = d))
theorem plcN_yes {N : Nat → Int} {n : Nat} {d : Int} {k : Nat} (h : PlcN N n d k true) : k < n ∧ N k = d := by
  obtain ⟨_, h1, h2, h3⟩ := h
  have h3 := h3.symm
  rw [Bool.and_eq_true, decide_eq_true_eq, decide_eq_true_eq] at h3
  exact h3
theorem plcN_no {N : Nat → Int} {n : Nat} {d : Int} {k : Nat} (hr : RiseN N n) (h : PlcN N n d k false) : ∀ j, j < n → N j ≠ d := by
  obtain ⟨h0, h1, h2, h3⟩ := h
  intro j hj e
  rcases Nat.lt_or_ge j k with g | g
  · have := h1 j g; omega
  · have hk : k < n := by omega
    have h4 := h2 k (Nat.le_refl _) hk
    have h5 := riseN_le hr g hj
    have h6 : N k = d := by omega
    rw [decide_eq_true hk, decide_eq_true h6] at h3
    cases h3
end Go.Proofs.Ytfoncmeplofedae
