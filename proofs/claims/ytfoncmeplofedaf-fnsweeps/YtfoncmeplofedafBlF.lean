/- CONTRACTS: slices.BinarySearchFunc over a row of blobs that rises, the program's place. -/
import Derived.Test.YtfoncmeplofedafBlJ
import Derived.Deep.LoopGhost
namespace Go.Proofs.Ytfoncmeplofedaf
open Go.RowKit
set_option linter.unusedVariables false
/-- where a number is, or would be -/
def Plc (l : List Bl) (d : Int) (k : Nat) (fd : Bool) : Prop := k ≤ l.length ∧ (∀ j, j < k → (l.getD j bl0).1 < d) ∧ (∀ j, k ≤ j → j < l.length → d ≤ (l.getD j bl0).1) ∧ fd = (decide (k < l.length) && decide ((l.getD k bl0).1 = d))
theorem rise_at {l : List Bl} (hr : l.Pairwise (fun p q => p.1 < q.1)) {a b : Nat} (hab : a ≤ b) (hb : b < l.length) : (l.getD a bl0).1 ≤ (l.getD b bl0).1 := by
  rcases Nat.lt_or_ge a b with h | h
  · have := List.pairwise_iff_getElem.1 hr a b (by omega) hb h
    rw [getD_at hb, getD_at (show a < l.length by omega)]
    omega
  · obtain rfl : a = b := by omega
    exact Int.le_refl _
theorem plc_yes {l : List Bl} {d : Int} {k : Nat} (h : Plc l d k true) : k < l.length ∧ (l.getD k bl0).1 = d ∧ findB l d = some (l.getD k bl0) := by
  obtain ⟨_, h1, h2, h3⟩ := h
  have h3 := h3.symm
  rw [Bool.and_eq_true, decide_eq_true_eq, decide_eq_true_eq] at h3
  exact ⟨h3.1, h3.2, (idxB_is h3.1 h3.2 (fun j hj => by have := h1 j hj; omega)).2⟩
theorem plc_no {l : List Bl} {d : Int} {k : Nat} (hr : l.Pairwise (fun p q => p.1 < q.1)) (h : Plc l d k false) : findB l d = none := by
  obtain ⟨h0, h1, h2, h3⟩ := h
  refine (idxB_no fun j hj => ?_).2
  rcases Nat.lt_or_ge j k with g | g
  · have := h1 j g; omega
  · intro e
    have hk : k < l.length := by omega
    have h4 := h2 k (Nat.le_refl _) hk
    have h5 := rise_at hr g hj
    have h6 : (l.getD k bl0).1 = d := by omega
    rw [decide_eq_true hk, decide_eq_true h6] at h3
    cases h3
end Go.Proofs.Ytfoncmeplofedaf
