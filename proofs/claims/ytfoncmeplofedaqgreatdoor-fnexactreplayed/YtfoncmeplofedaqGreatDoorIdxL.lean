/- THE FIRST OF A LIST that is so, and what is left without those that are so. It speaks of no function of the program. -/
import Derived.Test.YtfoncmeplofedaqGreatDoorBuna
namespace Go.Proofs.YtfoncmeplofedaqGreatDoor
set_option linter.unusedVariables false
/-- the number of the first one from k on; -1 where there is none -/
def idxP {α : Type} (p : α → Bool) : List α → Nat → Int
  | [], _ => -1
  | x :: t, k => if p x = true then (k : Int) else idxP p t (k + 1)
theorem idxP_step {α : Type} (p : α → Bool) (l : List α) (z : α) (k : Nat) (h : k < l.length) : idxP p (l.drop k) k = if p (l.getD k z) = true then (k : Int) else idxP p (l.drop (k + 1)) (k + 1) := by
  have e : l.getD k z = l[k] := by simp [List.getD, h]
  rw [List.drop_eq_getElem_cons h, e]
  rfl
theorem idxP_end {α : Type} (p : α → Bool) (l : List α) : idxP p (l.drop l.length) l.length = -1 := by
  rw [List.drop_length]; rfl
theorem idxP_is {α : Type} (p : α → Bool) (z : α) : ∀ (l : List α) (k : Nat), (idxP p l k = -1 ∧ ∀ j, j < l.length → p (l.getD j z) = false) ∨ ∃ i, i < l.length ∧ idxP p l k = ((k + i : Nat) : Int) ∧ p (l.getD i z) = true ∧ ∀ j, j < i → p (l.getD j z) = false
  | [], k => Or.inl ⟨rfl, fun j h => absurd h (Nat.not_lt_zero _)⟩
  | x :: t, k => by
    by_cases hx : p x = true
    · exact Or.inr ⟨0, by simp, by show (if p x = true then (k : Int) else _) = _; rw [if_pos hx]; rfl, hx, fun j h => absurd h (Nat.not_lt_zero _)⟩
    · have hx' : p x = false := by simpa using hx
      have e : idxP p (x :: t) k = idxP p t (k + 1) := by show (if p x = true then (k : Int) else _) = _; rw [if_neg hx]
      rw [e]
      rcases idxP_is p z t (k + 1) with ⟨h1, h2⟩ | ⟨i, h1, h2, h3, h4⟩
      · refine Or.inl ⟨h1, fun j hj => ?_⟩
        cases j with
        | zero => exact hx'
        | succ j => exact h2 j (by simpa using hj)
      · refine Or.inr ⟨i + 1, by simpa using h1, by rw [h2]; congr 1; omega, h3, fun j hj => ?_⟩
        cases j with
        | zero => exact hx'
        | succ j => exact h4 j (by omega)
theorem idxP_any {α : Type} (p : α → Bool) (l : List α) : ∀ k, decide (0 ≤ idxP p l k) = l.any p := by
  induction l with
  | nil => intro k; rfl
  | cons x t ih =>
    intro k
    by_cases hx : p x = true
    · have e : idxP p (x :: t) k = (k : Int) := by show (if p x = true then (k : Int) else _) = _; rw [if_pos hx]
      rw [e, List.any_cons, hx, Bool.true_or]
      exact decide_eq_true (by omega)
    · have e : idxP p (x :: t) k = idxP p t (k + 1) := by show (if p x = true then (k : Int) else _) = _; rw [if_neg hx]
      have hx' : p x = false := by simpa using hx
      rw [e, ih, List.any_cons, hx', Bool.false_or]
theorem idxP_ge {α : Type} (p : α → Bool) (l : List α) (k : Nat) : -1 ≤ idxP p l k := by
  induction l generalizing k with
  | nil => exact Int.le_refl _
  | cons x t ih =>
    show -1 ≤ (if p x = true then (k : Int) else idxP p t (k + 1))
    split
    · omega
    · exact ih _
theorem filter_next {α : Type} (q : α → Bool) (l : List α) (z : α) (k : Nat) (hk : k < l.length) : (l.take (k + 1)).filter q = (l.take k).filter q ++ (if q (l.getD k z) = true then [l.getD k z] else []) := by
  have e : l.getD k z = l[k] := by simp [List.getD, hk]
  rw [List.take_succ_eq_append_getElem hk, List.filter_append, e]
  congr 1
  by_cases h : q l[k] = true
  · rw [if_pos h, List.filter_cons_of_pos h, List.filter_nil]
  · rw [if_neg h, List.filter_cons_of_neg h, List.filter_nil]
theorem filter_none {α : Type} (p : α → Bool) (l : List α) (z : α) (k : Nat) (hk : k ≤ l.length) (h : ∀ j, j < k → p (l.getD j z) = false) : (l.take k).filter (fun x => !p x) = l.take k := by
  rw [List.filter_eq_self]
  intro x hx
  obtain ⟨j, hj, rfl⟩ := List.getElem_of_mem hx
  rw [List.length_take] at hj
  have h9 := h j (by omega)
  rw [List.getElem_take]
  have e : l.getD j z = l[j]'(by omega) := by simp [List.getD, show j < l.length by omega]
  rw [e] at h9
  rw [h9]; rfl
theorem take_set_next {α : Type} {M : List α} {q : Nat} {x : α} (h : q < M.length) : (M.set q x).take (q + 1) = M.take q ++ [x] := by
  rw [List.take_succ_eq_append_getElem (by rw [List.length_set]; exact h), List.take_set_of_le (Nat.le_refl _)]
  simp
end Go.Proofs.YtfoncmeplofedaqGreatDoor
