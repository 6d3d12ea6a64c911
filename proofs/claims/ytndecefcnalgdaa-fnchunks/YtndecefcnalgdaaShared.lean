/- CONTRACTS: how many numbers two rising lists share: spec's (l1Has, l1Rises, l4Numbers, Shared), impl's (numbersRise, Shared) and slices.BinarySearch. -/
import Derived.Test.YtndecefcnalgdaaRoll
import Derived.Deep.RegionHeld
namespace Go.Proofs.Ytndecefcnalgdaa
open Go.RowKit

def risesB (l : List Int) : Bool := decide (∀ i, i < l.length → 0 < i → l.getD (i - 1) 0 < l.getD i 0)
/-- a rising list of numbers that Number takes -/
def okNums (l : List Int) : Bool := decide (∀ i, i < l.length → 0 ≤ l.getD i 0 ∧ l.getD i 0 ≤ 1099511627776) && risesB l
/-- how many numbers of a, and s, are in b -/
def cntN (a b : List Int) (s : Int) : Nat := (a.filter fun x => b.contains (x + s)).length
/-- what Shared tells -/
def sharedT (a b : List Int) (s : Int) : Int := if (okNums a && okNums b && decide (-1099511627776 ≤ s ∧ s ≤ 1099511627776)) = true then (cntN a b s : Int) else -1
theorem rises_mono {l : List Int} (h : risesB l = true) (p : Nat) : ∀ d, p + d < l.length → l.getD p 0 ≤ l.getD (p + d) 0 := by
  have h1 := of_decide_eq_true h
  intro d
  induction d with
  | zero => intro _; exact Int.le_refl _
  | succ d ih =>
    intro hd
    have h2 := ih (by omega)
    have h3 := h1 (p + (d + 1)) hd (by omega)
    rw [show p + (d + 1) - 1 = p + d by omega] at h3
    omega
theorem rises_le {l : List Int} (h : risesB l = true) {p q : Nat} (h1 : p ≤ q) (h2 : q < l.length) : l.getD p 0 ≤ l.getD q 0 := by
  have := rises_mono h p (q - p) (by omega)
  rwa [show p + (q - p) = q by omega] at this
theorem contains_at (l : List Int) (t : Int) : l.contains t = true ↔ ∃ i, i < l.length ∧ l.getD i 0 = t := by
  rw [List.contains_iff_mem, List.mem_iff_getElem]
  constructor
  · rintro ⟨i, hi, e⟩
    exact ⟨i, hi, by simp [List.getD, hi, e]⟩
  · rintro ⟨i, hi, e⟩
    exact ⟨i, hi, by simpa [List.getD, hi] using e⟩
theorem cntN_succ (a b : List Int) (s : Int) (k : Nat) (h : k < a.length) : cntN (a.take (k + 1)) b s = cntN (a.take k) b s + if b.contains (a.getD k 0 + s) = true then 1 else 0 := by
  unfold cntN
  rw [take_snoc a 0 k h, List.filter_append, List.length_append]
  congr 1
  by_cases hc : b.contains (a.getD k 0 + s) = true
  · rw [if_pos hc, List.filter_cons, if_pos hc]; rfl
  · rw [if_neg hc, List.filter_cons, if_neg hc]; rfl
theorem okNums_range {l : List Int} (h : okNums l = true) (i : Nat) (hi : i < l.length) : 0 ≤ l.getD i 0 ∧ l.getD i 0 ≤ 1099511627776 := by
  unfold okNums at h
  simp only [Bool.and_eq_true, decide_eq_true_eq] at h
  exact h.1 i hi
theorem okNums_rises {l : List Int} (h : okNums l = true) : risesB l = true := by
  unfold okNums at h
  simp only [Bool.and_eq_true] at h
  exact h.2
theorem okNums_no {l : List Int} {i : Nat} (hi : i < l.length) (h : ¬ (0 ≤ l.getD i 0 ∧ l.getD i 0 ≤ 1099511627776)) : okNums l = false := by
  cases hk : okNums l
  · rfl
  · exact absurd (okNums_range hk i hi) h
theorem risesB_no {l : List Int} {i : Nat} (hi : i < l.length) (h0 : 0 < i) (h : ¬ l.getD (i - 1) 0 < l.getD i 0) : risesB l = false :=
  decide_eq_false fun hk => h (hk i hi h0)
theorem okNums_no2 {l : List Int} {i : Nat} (hi : i < l.length) (h0 : 0 < i) (h : ¬ l.getD (i - 1) 0 < l.getD i 0) : okNums l = false := by
  unfold okNums
  rw [risesB_no hi h0 h, Bool.and_false]





theorem okNums_yes {l : List Int} (h : ∀ i, i < l.length → 0 ≤ l.getD i 0 ∧ l.getD i 0 ≤ 1099511627776) : okNums l = risesB l := by
  unfold okNums
  rw [decide_eq_true h, Bool.true_and]



theorem sharedT_bad (a b : List Int) (s : Int) (h : (okNums a && okNums b && decide (-1099511627776 ≤ s ∧ s ≤ 1099511627776)) = false) : sharedT a b s = -1 := by
  unfold sharedT
  rw [h]
  rfl
theorem sharedT_ok (a b : List Int) (s : Int) (h : (okNums a && okNums b && decide (-1099511627776 ≤ s ∧ s ≤ 1099511627776)) = true) : sharedT a b s = (cntN a b s : Int) := by
  unfold sharedT
  rw [if_pos h]



end Go.Proofs.Ytndecefcnalgdaa
