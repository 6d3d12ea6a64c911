/- CONTRACTS: a rule: impl's (bounded, fitted, RuleOk), spec.RuleOk, laws.toRule. -/
import Derived.Test.YtndecefcnalgdaaRoll
import Derived.Deep.RegionHeld
namespace Go.Proofs.Ytndecefcnalgdaa
open Go.RowKit

/-- a rule as a value -/
abbrev ruleV (W P L M : Int) : Value := .agg #[.int .i64 W, .int .i64 P, .int .i64 L, .int .i64 M]
/-- is it right? -/
def ruleB (W P L M : Int) : Bool := decide (1 ≤ W ∧ W ≤ 16) && decide (1 ≤ P ∧ P ≤ 1000) && decide (W ≤ L ∧ L ≤ 1000) && decide (L ≤ M ∧ M ≤ 1000)
/-- brought within bounds -/
def bnd (n lo hi : Int) : Int := max lo (min n hi)

theorem bounded_any (n lo hi : Int) (w : World) :
    Calls Try.prog 101 #[.int .i64 n, .int .i64 lo, .int .i64 hi] w fun e w' => e = .returned (.int .i64 (bnd n lo hi)) ∧ w' = w := by
  go_enter Try.func101, Try.ntmps101
  go_wp2
  all_goals
    go_ret
    exact ⟨ret_int (by unfold bnd; omega), rfl⟩

set_option maxHeartbeats 1000000 in
theorem fitted_any (W P L M : Int) (w : World) :
    Calls Try.prog 93 #[ruleV W P L M] w fun e w' => e = .returned (ruleV (bnd W 1 16) (bnd P 1 1000) (bnd L (bnd W 1 16) 1000) (bnd M (bnd L (bnd W 1 16) 1000) 1000)) ∧ Below w.heap.size w w' := by
  go_enter Try.func93, Try.ntmps93
  go_wp2_with fail
  refine (bounded_any _ _ _ _).mono ?_
  rintro e w1 ⟨rfl, rfl⟩
  go_wp2_with fail
  refine (bounded_any _ _ _ _).mono ?_
  rintro e w1 ⟨rfl, rfl⟩
  go_wp2_with fail
  refine (bounded_any _ _ _ _).mono ?_
  rintro e w1 ⟨rfl, rfl⟩
  go_wp2_with fail
  refine (bounded_any _ _ _ _).mono ?_
  rintro e w1 ⟨rfl, rfl⟩
  go_wp2
  refine bodyPost_ret (v := ruleV (bnd W 1 16) (bnd P 1 1000) (bnd L (bnd W 1 16) 1000) (bnd M (bnd L (bnd W 1 16) 1000) 1000)) (by simp [results, Try.results93, go_sem]) rfl ⟨rfl, ?_⟩
  exact ((Below.refl _ _).alloc (Nat.le_refl _) _).alloc (by simp) _


theorem specRuleOk_any (W P L M : Int) (w : World) :
    Calls Try.prog 61 #[ruleV W P L M] w fun e w' => e = .returned (.bool (ruleB W P L M)) ∧ Below w.heap.size w w' := by
  have HR : Hid (ruleB W P L M = (decide (1 ≤ W ∧ W ≤ 16) && decide (1 ≤ P ∧ P ≤ 1000) && decide (W ≤ L ∧ L ≤ 1000) && decide (L ≤ M ∧ M ≤ 1000))) := rfl
  have hd : ∀ (b : Bool), b = true ∨ b = false := by decide
  rcases hd (decide (1 ≤ W ∧ W ≤ 16)) with d1 | d1
  focus
    rcases hd (decide (1 ≤ P ∧ P ≤ 1000)) with d2 | d2
    focus
      rcases hd (decide (W ≤ L ∧ L ≤ 1000)) with d3 | d3
      focus
        rcases hd (decide (L ≤ M ∧ M ≤ 1000)) with d4 | d4
        all_goals
          rw [d1, d2, d3, d4] at HR
          go_enter Try.func61, Try.ntmps61
          go_wp2_with fail
          refine (l1In_any _ _ _ _).mono ?_
          rintro e w1 ⟨rfl, rfl⟩
          rw [d1]
          go_wp2_with fail
          refine (l1In_any _ _ _ _).mono ?_
          rintro e w1 ⟨rfl, rfl⟩
          rw [d2]
          go_wp2_with fail
          refine (l1In_any _ _ _ _).mono ?_
          rintro e w1 ⟨rfl, rfl⟩
          rw [d3]
          go_wp2_with fail
          refine (l1In_any _ _ _ _).mono ?_
          rintro e w1 ⟨rfl, rfl⟩
          rw [d4]
          clear d1 d2 d3 d4 hd
          go_wp2
          go_ret
          exact ⟨by rw [HR.out]; rfl, (Below.refl _ _).alloc (Nat.le_refl _) _⟩
      rw [d1, d2, d3] at HR
      go_enter Try.func61, Try.ntmps61
      go_wp2_with fail
      refine (l1In_any _ _ _ _).mono ?_
      rintro e w1 ⟨rfl, rfl⟩
      rw [d1]
      go_wp2_with fail
      refine (l1In_any _ _ _ _).mono ?_
      rintro e w1 ⟨rfl, rfl⟩
      rw [d2]
      go_wp2_with fail
      refine (l1In_any _ _ _ _).mono ?_
      rintro e w1 ⟨rfl, rfl⟩
      rw [d3]
      clear d1 d2 d3 hd
      go_wp2
      go_ret
      exact ⟨by rw [HR.out]; rfl, (Below.refl _ _).alloc (Nat.le_refl _) _⟩
    rw [d1, d2] at HR
    go_enter Try.func61, Try.ntmps61
    go_wp2_with fail
    refine (l1In_any _ _ _ _).mono ?_
    rintro e w1 ⟨rfl, rfl⟩
    rw [d1]
    go_wp2_with fail
    refine (l1In_any _ _ _ _).mono ?_
    rintro e w1 ⟨rfl, rfl⟩
    rw [d2]
    clear d1 d2 hd
    go_wp2
    go_ret
    exact ⟨by rw [HR.out]; rfl, (Below.refl _ _).alloc (Nat.le_refl _) _⟩
  rw [d1] at HR
  go_enter Try.func61, Try.ntmps61
  go_wp2_with fail
  refine (l1In_any _ _ _ _).mono ?_
  rintro e w1 ⟨rfl, rfl⟩
  rw [d1]
  clear d1 hd
  go_wp2
  go_ret
  exact ⟨by rw [HR.out]; rfl, (Below.refl _ _).alloc (Nat.le_refl _) _⟩

theorem ruleB_fit (W P L M : Int) : ruleB W P L M = decide (W = bnd W 1 16 ∧ P = bnd P 1 1000 ∧ L = bnd L (bnd W 1 16) 1000 ∧ M = bnd M (bnd L (bnd W 1 16) 1000) 1000) := by
  rw [Bool.eq_iff_iff]
  unfold ruleB bnd
  simp only [Bool.and_eq_true, decide_eq_true_eq]
  omega

/-- a boxed rule's cells, where its block is as it was -/
theorem rule_cells {w1 w2 : World} {b : Nat} {t : TypeId} {fr : Nat × Nat} {W P L M : Int} (h : w2.heap[b]? = w1.heap[b]?) (hb : w1.heap[b]? = some (.cells #[.int .i64 W, .int .i64 P, .int .i64 L, .int .i64 M] t fr)) :
    w2.cell? ⟨b, 0, none⟩ = some (.int .i64 W) ∧ w2.cell? ⟨b, 1, none⟩ = some (.int .i64 P) ∧ w2.cell? ⟨b, 2, none⟩ = some (.int .i64 L) ∧ w2.cell? ⟨b, 3, none⟩ = some (.int .i64 M) := by
  have h2 := h.trans hb
  exact ⟨by simp [World.cell?, h2], by simp [World.cell?, h2], by simp [World.cell?, h2], by simp [World.cell?, h2]⟩

set_option maxHeartbeats 1000000 in
set_option maxRecDepth 100000 in
theorem implRuleOk_any (W P L M : Int) (w : World) :
    Calls Try.prog 60 #[ruleV W P L M] w fun e w' => e = .returned (.bool (ruleB W P L M)) ∧ Below w.heap.size w w' := by
  have HR : Hid (ruleB W P L M = decide (W = bnd W 1 16 ∧ P = bnd P 1 1000 ∧ L = bnd L (bnd W 1 16) 1000 ∧ M = bnd M (bnd L (bnd W 1 16) 1000) 1000)) := ruleB_fit W P L M
  have HF := fitted_any W P L M
  generalize bnd M (bnd L (bnd W 1 16) 1000) 1000 = d at HR HF
  generalize bnd L (bnd W 1 16) 1000 = c at HR HF
  generalize bnd P 1 1000 = b at HR HF
  generalize bnd W 1 16 = a at HR HF
  go_enter Try.func60, Try.ntmps60
  go_wp2
  have hbx := heap_alloc_new w (.cells #[.int .i64 W, .int .i64 P, .int .i64 L, .int .i64 M] 56)
  have hB : Below w.heap.size w (w.alloc (.cells #[.int .i64 W, .int .i64 P, .int .i64 L, .int .i64 M] 56)) := (Below.refl _ _).alloc (Nat.le_refl _) _
  have hlt : w.heap.size < (w.alloc (.cells #[.int .i64 W, .int .i64 P, .int .i64 L, .int .i64 M] 56)).heap.size := by simp
  obtain ⟨d0, d1, d2, d3⟩ := rule_cells rfl hbx
  obtain ⟨w1, hw1⟩ : ∃ w1, w1 = w.alloc (.cells #[.int .i64 W, .int .i64 P, .int .i64 L, .int .i64 M] 56) := ⟨_, rfl⟩
  rw [← hw1] at hbx hB hlt d0 d1 d2 d3 ⊢
  clear hw1
  by_cases e1 : W = a
  rotate_left
  focus
    have HX : Hid (ruleB W P L M = false) := by show _ = _; rw [HR.out]; simp [e1]
    clear HR
    go_region_with (go_at_call 93; refine (HF _).mono ?_; rintro e w2 ⟨rfl, hb2⟩; obtain ⟨c0, c1, c2, c3⟩ := rule_cells (hb2.block w.heap.size hlt) hbx)
    all_goals
      go_wp2
      go_ret
      exact ⟨by rw [HX.out]; rfl, hB.drew.trans (hb2.mono (Nat.le_of_lt hlt))⟩
  subst e1
  by_cases e2 : P = b
  rotate_left
  focus
    have HX : Hid (ruleB W P L M = false) := by show _ = _; rw [HR.out]; simp [e2]
    clear HR
    go_region_with (go_at_call 93; refine (HF _).mono ?_; rintro e w2 ⟨rfl, hb2⟩; obtain ⟨c0, c1, c2, c3⟩ := rule_cells (hb2.block w.heap.size hlt) hbx)
    all_goals
      go_wp2
      go_ret
      exact ⟨by rw [HX.out]; rfl, hB.drew.trans (hb2.mono (Nat.le_of_lt hlt))⟩
  subst e2
  by_cases e3 : L = c
  rotate_left
  focus
    have HX : Hid (ruleB W P L M = false) := by show _ = _; rw [HR.out]; simp [e3]
    clear HR
    go_region_with (go_at_call 93; refine (HF _).mono ?_; rintro e w2 ⟨rfl, hb2⟩; obtain ⟨c0, c1, c2, c3⟩ := rule_cells (hb2.block w.heap.size hlt) hbx)
    all_goals
      go_wp2
      go_ret
      exact ⟨by rw [HX.out]; rfl, hB.drew.trans (hb2.mono (Nat.le_of_lt hlt))⟩
  subst e3
  by_cases e4 : M = d
  focus
    subst e4
    have HX : Hid (ruleB W P L M = true) := by show _ = _; rw [HR.out]; simp
    clear HR
    go_region_with (go_at_call 93; refine (HF _).mono ?_; rintro e w2 ⟨rfl, hb2⟩; obtain ⟨c0, c1, c2, c3⟩ := rule_cells (hb2.block w.heap.size hlt) hbx)
    all_goals
      go_wp2
      go_ret
      exact ⟨by rw [HX.out]; rfl, hB.drew.trans (hb2.mono (Nat.le_of_lt hlt))⟩
  have HX : Hid (ruleB W P L M = false) := by show _ = _; rw [HR.out]; simp [e4]
  clear HR
  go_region_with (go_at_call 93; refine (HF _).mono ?_; rintro e w2 ⟨rfl, hb2⟩; obtain ⟨c0, c1, c2, c3⟩ := rule_cells (hb2.block w.heap.size hlt) hbx)
  all_goals
    go_wp2
    go_ret
    exact ⟨by rw [HX.out]; rfl, hB.drew.trans (hb2.mono (Nat.le_of_lt hlt))⟩

end Go.Proofs.Ytndecefcnalgdaa
