/- SWEEPS OVER LISTS: with more marks no more goes, of an earlier round no more either, done again nothing. (What FnSweeps says.) -/
import Derived.Test.YtfoncmeplofedafShR
namespace Go.Proofs.Ytfoncmeplofedaf
open Go.RowKit
set_option linter.unusedVariables false
theorem filter_le {p q : It → Bool} (h : ∀ x, p x = true → q x = true) : ∀ l : List It, (l.filter p).length ≤ (l.filter q).length
  | [] => Nat.le_refl _
  | x :: t => by
    have ih := filter_le h t
    rw [List.filter_cons, List.filter_cons]
    by_cases hp : p x = true
    · rw [if_pos hp, if_pos (h x hp)]; simpa using ih
    · rw [if_neg hp]
      split
      · rw [List.length_cons]; omega
      · exact ih
theorem filter_one {p : It → Bool} {d : Int} : ∀ l : List It, l.Pairwise (fun a b => a.1 < b.1) → (l.filter fun x => p x || decide (x.1 = d)).length ≤ (l.filter p).length + 1
  | [], _ => Nat.le_succ _
  | x :: t, h => by
    obtain ⟨h1, h2⟩ := List.pairwise_cons.1 h
    have ih := filter_one (p := p) (d := d) t h2
    rw [List.filter_cons, List.filter_cons]
    by_cases hp : p x = true
    · rw [if_pos (by simp [hp]), if_pos hp, List.length_cons, List.length_cons]; omega
    · rw [if_neg hp]
      by_cases hd : x.1 = d
      · rw [if_pos (by simp [hd]), List.length_cons]
        have e : (t.filter fun x => p x || decide (x.1 = d)) = t.filter p := by
          apply List.filter_congr
          intro y hy
          have := h1 y hy
          rw [decide_eq_false (by omega), Bool.or_false]
        rw [e]
        omega
      · rw [if_neg (by simp [hp, hd])]
        exact ih
theorem stay_more {r : Int} {ms : List Int} {d : Int} (x : It) : stayP r (ms ++ [d]) x = (stayP r ms x || decide (x.1 = d)) := by
  unfold stayP
  rw [Bool.or_assoc]
  congr 1
  by_cases h : x.1 ∈ ms <;> by_cases h2 : x.1 = d <;> simp [h, h2]
theorem sweptL_more {r : Int} {ms : List Int} {d : Int} {l : List It} (h : l.Pairwise (fun a b => a.1 < b.1)) : (sweptL r ms l).length ≤ (sweptL r (ms ++ [d]) l).length ∧ (sweptL r (ms ++ [d]) l).length ≤ (sweptL r ms l).length + 1 := by
  have e : sweptL r (ms ++ [d]) l = l.filter fun x => stayP r ms x || decide (x.1 = d) := List.filter_congr fun x _ => stay_more x
  rw [e]
  exact ⟨filter_le (fun x hx => by rw [hx]; rfl) l, filter_one l h⟩
theorem sweptL_again (r : Int) (ms : List Int) (l : List It) : sweptL r ms (sweptL r ms l) = sweptL r ms l := by
  unfold sweptL
  rw [List.filter_filter]
  simp
theorem sweptL_early (r : Int) (ms : List Int) (l : List It) : (sweptL r ms l).length ≤ (sweptL (r - 1) ms l).length := by
  refine filter_le (fun x hx => ?_) l
  unfold stayP at *
  rcases Bool.or_eq_true_iff.1 hx with h | h
  · rw [decide_eq_true (by have := of_decide_eq_true h; omega), Bool.true_or]
  · rw [h, Bool.or_true]
theorem sweptL_none (r : Int) (ms : List Int) (l : List It) : (sweptL r [] l).length ≤ (sweptL r ms l).length := by
  refine filter_le (fun x hx => ?_) l
  unfold stayP at *
  rcases Bool.or_eq_true_iff.1 hx with h | h
  · rw [h, Bool.true_or]
  · simp at h
theorem shelf_rise {r : Int} {l : List It} (h : shelfB r l = true) : l.Pairwise (fun a b => a.1 < b.1) := by
  have h3 := (storeB_iff.1 (shelfB_iff.1 h).2.1).2.2
  have h9 : (l.map itB).Pairwise (fun p q => p.1 < q.1) := h3
  rw [List.pairwise_map] at h9
  exact h9
/-- where the sweep does something -/
theorem swept_cases {r : Int} {l : List It} {round : Int} {ms : List Int} (h : 0 ≤ (sweptT r l round ms).2) : shelfB r l = true ∧ r ≤ round ∧ round ≤ 100000 ∧ sweptT r l round ms = ((round, sweptL round ms l), (l.length : Int) - ((sweptL round ms l).length : Int)) := by
  unfold sweptT at h ⊢
  by_cases h1 : shelfB r l = true
  · rw [if_pos h1] at h ⊢
    by_cases h2 : round < r ∨ 100000 < round
    · rw [if_pos h2] at h; simp at h
    · rw [if_neg h2]
      exact ⟨h1, by omega, by omega, rfl⟩
  · rw [if_neg h1] at h; simp at h
theorem swept_is {r : Int} {l : List It} {round : Int} {ms : List Int} (h1 : shelfB r l = true) (h2 : r ≤ round) (h3 : round ≤ 100000) : (sweptT r l round ms).2 = (l.length : Int) - ((sweptL round ms l).length : Int) := by
  unfold sweptT
  rw [if_pos h1, if_neg (by omega)]
theorem swept_early {r : Int} {l : List It} {round : Int} {ms : List Int} (h : 0 ≤ (sweptT r l round ms).2) : (sweptT r l (round - 1) ms).2 ≤ (sweptT r l round ms).2 := by
  obtain ⟨h1, h2, h3, e⟩ := swept_cases h
  by_cases h4 : r ≤ round - 1
  · rw [swept_is h1 h4 (by omega), e]
    have := sweptL_early round ms l
    show _ ≤ (l.length : Int) - ((sweptL round ms l).length : Int)
    omega
  · have e2 : (sweptT r l (round - 1) ms).2 = -1 := by unfold sweptT; rw [if_pos h1, if_pos (Or.inl (by omega))]
    rw [e2]; omega
theorem swept_none {r : Int} {l : List It} {round : Int} {ms : List Int} (h : 0 ≤ (sweptT r l round ms).2) : (sweptT r l round ms).2 ≤ (sweptT r l round []).2 := by
  obtain ⟨h1, h2, h3, e⟩ := swept_cases h
  rw [swept_is (ms := []) h1 h2 h3, e]
  have := sweptL_none round ms l
  show (l.length : Int) - ((sweptL round ms l).length : Int) ≤ _
  omega
theorem swept_more {r : Int} {l : List It} {round : Int} {ms : List Int} (d : Int) (h : 0 ≤ (sweptT r l round ms).2) : (sweptT r l round (ms ++ [d])).2 ≤ (sweptT r l round ms).2 ∧ (sweptT r l round ms).2 - 1 ≤ (sweptT r l round (ms ++ [d])).2 := by
  obtain ⟨h1, h2, h3, e⟩ := swept_cases h
  have := sweptL_more (r := round) (ms := ms) (d := d) (shelf_rise h1)
  rw [swept_is h1 h2 h3, e]
  show _ ≤ (l.length : Int) - ((sweptL round ms l).length : Int) ∧ (l.length : Int) - ((sweptL round ms l).length : Int) - 1 ≤ _
  omega
theorem swept_again {r : Int} {l : List It} {round : Int} {ms : List Int} (h : 0 ≤ (sweptT r l round ms).2) : (sweptT (sweptT r l round ms).1.1 (sweptT r l round ms).1.2 round ms).2 = 0 := by
  obtain ⟨h1, h2, h3, e⟩ := swept_cases h
  have hr := (shelfB_iff.1 h1).1
  rw [e]
  show (sweptT round (sweptL round ms l) round ms).2 = 0
  rw [swept_is (swept_right h1 ⟨by omega, h3⟩) (Int.le_refl _) h3, sweptL_again]
  omega
end Go.Proofs.Ytfoncmeplofedaf
