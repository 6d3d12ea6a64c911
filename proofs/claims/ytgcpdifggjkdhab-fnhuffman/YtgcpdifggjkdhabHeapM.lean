/- THE MATHEMATICS of a binary heap in a list: up, down. It speaks of no function of the program. -/
import Derived.Test.YtgcpdifggjkdhabHeapX
namespace Go.Proofs.Ytgcpdifggjkdhab
set_option linter.unusedVariables false
def noI : It := (0, 0, none, 0, 0)
def atI (hs : List It) (k : Nat) : It := hs.getD k noI
theorem atI_some {hs : List It} {k : Nat} (h : k < hs.length) : hs[k]? = some (atI hs k) := by simp [atI, List.getD, h]
theorem ltI_iff (x y : It) : ltI x y = true ↔ (x.1 < y.1 ∨ (x.1 = y.1 ∧ x.2.1 < y.2.1)) := by simp [ltI]
def LtI (x y : It) : Prop := x.1 < y.1 ∨ (x.1 = y.1 ∧ x.2.1 < y.2.1)
theorem ltI_true {x y : It} : ltI x y = true ↔ LtI x y := ltI_iff x y
theorem LtI.asym {x y : It} (h : LtI x y) : ¬ LtI y x := by unfold LtI at *; omega
theorem LtI.trans {x y z : It} (h : LtI x y) (k : LtI y z) : LtI x z := by unfold LtI at *; omega
theorem ntrans {x y z : It} (h : ¬ LtI x y) (k : ¬ LtI y z) : ¬ LtI x z := by unfold LtI at *; omega
theorem nirr (x : It) : ¬ LtI x x := by unfold LtI; omega
/-- two items change places -/
def swI (hs : List It) (i j : Nat) : List It := (hs.set i (atI hs j)).set j (atI hs i)
theorem swI_len (hs : List It) (i j : Nat) : (swI hs i j).length = hs.length := by simp [swI]
theorem swI_at {hs : List It} {i j : Nat} (hi : i < hs.length) (hj : j < hs.length) (k : Nat) : atI (swI hs i j) k = if k = j then atI hs i else if k = i then atI hs j else atI hs k := by
  by_cases h1 : k = j
  · subst h1
    simp [swI, atI, List.getD, hj]
  · by_cases h2 : k = i
    · subst h2
      have h3 : ¬ j = k := fun e => h1 e.symm
      simp [swI, atI, List.getD, hi, h1, h3]
    · have h3 : ¬ j = k := fun e => h1 e.symm
      have h4 : ¬ i = k := fun e => h2 e.symm
      simp [swI, atI, List.getD, h1, h2, h3, h4]
theorem swI_perm {hs : List It} {i j : Nat} (hi : i < hs.length) (hj : j < hs.length) : (swI hs i j).Perm hs := by
  have e1 : atI hs i = hs[i] := by simp [atI, List.getD, hi]
  have e2 : atI hs j = hs[j] := by simp [atI, List.getD, hj]
  unfold swI
  rw [e1, e2]
  exact List.set_set_perm hi hj
def HpI (hs : List It) (n : Nat) : Prop := ∀ k, 0 < k → k < n → ¬ LtI (atI hs k) (atI hs ((k - 1) / 2))
/-- all is a heap but at j, and what is behind j is not ahead of what is ahead of j -/
structure UpI (hs : List It) (j n : Nat) : Prop where
  a : ∀ k, 0 < k → k < n → k ≠ j → ¬ LtI (atI hs k) (atI hs ((k - 1) / 2))
  b : ∀ k, 0 < k → k < n → (k - 1) / 2 = j → 0 < j → ¬ LtI (atI hs k) (atI hs ((j - 1) / 2))
theorem UpI.done0 {hs : List It} {n : Nat} (h : UpI hs 0 n) : HpI hs n := fun k h1 h2 => h.a k h1 h2 (by omega)
theorem UpI.done {hs : List It} {j n : Nat} (h : UpI hs j n) (hn : ¬ LtI (atI hs j) (atI hs ((j - 1) / 2))) : HpI hs n := fun k h1 h2 => by
  by_cases e : k = j
  · subst e; exact hn
  · exact h.a k h1 h2 e
theorem UpI.step {hs : List It} {j n : Nat} (h : UpI hs j n) (hj : 0 < j) (hjn : j < n) (hl : n ≤ hs.length) (hlt : LtI (atI hs j) (atI hs ((j - 1) / 2))) : UpI (swI hs ((j - 1) / 2) j) ((j - 1) / 2) n := by
  obtain ⟨i, hi⟩ : ∃ i, i = (j - 1) / 2 := ⟨_, rfl⟩
  rw [← hi] at hlt ⊢
  have hij : i < j := by omega
  have sa := swI_at (hs := hs) (i := i) (j := j) (by omega) (by omega)
  refine ⟨fun k h1 h2 h3 => ?_, fun k h1 h2 h3 h4 => ?_⟩
  · rw [sa k, sa ((k - 1) / 2), if_neg h3]
    by_cases e1 : k = j
    · rw [if_pos e1, if_neg (show ¬ (k - 1) / 2 = j by omega), if_pos (show (k - 1) / 2 = i by omega)]
      exact hlt.asym
    · rw [if_neg e1]
      by_cases e2 : (k - 1) / 2 = j
      · rw [if_pos e2]
        have := h.b k h1 h2 e2 hj
        rwa [← hi] at this
      · rw [if_neg e2]
        by_cases e3 : (k - 1) / 2 = i
        · rw [if_pos e3]
          have h5 := h.a k h1 h2 e1
          rw [e3] at h5
          exact fun h6 => h5 (h6.trans hlt)
        · rw [if_neg e3]
          exact h.a k h1 h2 e1
  · rw [sa k, sa ((i - 1) / 2), if_neg (show ¬ (i - 1) / 2 = j by omega), if_neg (show ¬ (i - 1) / 2 = i by omega)]
    have h5 := h.a i h4 (by omega) (by omega)
    by_cases e1 : k = j
    · rw [if_pos e1]; exact h5
    · rw [if_neg e1, if_neg (show ¬ k = i by omega)]
      have h6 := h.a k h1 h2 e1
      rw [h3] at h6
      exact ntrans h6 h5
/-- all is a heap but right behind i -/
structure DnI (hs : List It) (i n : Nat) : Prop where
  a : ∀ k, 0 < k → k < n → (k - 1) / 2 ≠ i → ¬ LtI (atI hs k) (atI hs ((k - 1) / 2))
  b : ∀ k, 0 < k → k < n → (k - 1) / 2 = i → 0 < i → ¬ LtI (atI hs k) (atI hs ((i - 1) / 2))
theorem DnI.done0 {hs : List It} {i n : Nat} (h : DnI hs i n) (hi : n ≤ 2 * i + 1) : HpI hs n := fun k h1 h2 => h.a k h1 h2 (by omega)
/-- the lesser one of those behind i -/
def kidI (hs : List It) (i n : Nat) : Nat := if 2 * i + 2 < n ∧ ltI (atI hs (2 * i + 2)) (atI hs (2 * i + 1)) = true then 2 * i + 2 else 2 * i + 1
theorem kidI_or (hs : List It) (i n : Nat) (hn : 2 * i + 1 < n) : (kidI hs i n = 2 * i + 1 ∨ kidI hs i n = 2 * i + 2) ∧ kidI hs i n < n := by
  unfold kidI
  split <;> omega
theorem kidI_least {hs : List It} {i n : Nat} (k : Nat) (h1 : 0 < k) (h2 : k < n) (h3 : (k - 1) / 2 = i) : ¬ LtI (atI hs k) (atI hs (kidI hs i n)) := by
  unfold kidI
  by_cases h : 2 * i + 2 < n ∧ ltI (atI hs (2 * i + 2)) (atI hs (2 * i + 1)) = true
  · rw [if_pos h]
    have h4 := ltI_true.1 h.2
    rcases (show k = 2 * i + 1 ∨ k = 2 * i + 2 by omega) with rfl | rfl
    · exact h4.asym
    · exact nirr _
  · rw [if_neg h]
    rcases (show k = 2 * i + 1 ∨ k = 2 * i + 2 by omega) with rfl | rfl
    · exact nirr _
    · exact fun h5 => h ⟨h2, ltI_true.2 h5⟩
theorem DnI.done {hs : List It} {i n : Nat} (h : DnI hs i n) (hn : ¬ LtI (atI hs (kidI hs i n)) (atI hs i)) : HpI hs n := fun k h1 h2 => by
  by_cases e : (k - 1) / 2 = i
  · rw [e]; exact ntrans (kidI_least k h1 h2 e) hn
  · exact h.a k h1 h2 e
theorem DnI.step {hs : List It} {i n : Nat} (h : DnI hs i n) (hin : 2 * i + 1 < n) (hl : n ≤ hs.length) (hlt : LtI (atI hs (kidI hs i n)) (atI hs i)) : DnI (swI hs i (kidI hs i n)) (kidI hs i n) n := by
  obtain ⟨hk, hkn⟩ := kidI_or hs i n hin
  have kl := fun k h1 h2 h3 => kidI_least (hs := hs) (i := i) (n := n) k h1 h2 h3
  obtain ⟨j, hj⟩ : ∃ j, j = kidI hs i n := ⟨_, rfl⟩
  rw [← hj] at hk hkn kl hlt ⊢
  have sa := swI_at (hs := hs) (i := i) (j := j) (by omega) (by omega)
  refine ⟨fun k h1 h2 h3 => ?_, fun k h1 h2 h3 h4 => ?_⟩
  · rw [sa k, sa ((k - 1) / 2), if_neg h3]
    by_cases e1 : (k - 1) / 2 = i
    · rw [if_pos e1]
      by_cases e2 : k = j
      · rw [if_pos e2]; exact hlt.asym
      · rw [if_neg e2, if_neg (show ¬ k = i by omega)]
        exact kl k h1 h2 e1
    · rw [if_neg e1, if_neg (show ¬ k = j by omega)]
      by_cases e2 : k = i
      · rw [if_pos e2]
        have h5 := h.b j (by omega) hkn (by omega) (by omega)
        rw [e2]; exact h5
      · rw [if_neg e2]; exact h.a k h1 h2 e1
  · have hji : (j - 1) / 2 = i := by omega
    rw [sa k, sa ((j - 1) / 2), hji, if_neg (show ¬ i = j by omega), if_pos rfl, if_neg (show ¬ k = j by omega), if_neg (show ¬ k = i by omega)]
    have h5 := h.a k h1 h2 (by omega)
    rw [h3] at h5
    exact h5
theorem HpI.least {hs : List It} {n : Nat} (h : HpI hs n) : ∀ k, k < n → ¬ LtI (atI hs k) (atI hs 0) := by
  intro k
  induction k using Nat.strongRecOn with
  | _ k ih =>
    intro hk
    by_cases h0 : k = 0
    · subst h0; exact nirr _
    · exact ntrans (h k (by omega) hk) (ih ((k - 1) / 2) (by omega) (by omega))
theorem HpI.mono {hs hs' : List It} {n m : Nat} (h : HpI hs n) (hm : m ≤ n) (he : ∀ k, k < m → atI hs' k = atI hs k) : HpI hs' m := fun k h1 h2 => by
  rw [he k h2, he _ (by omega)]
  exact h k h1 (by omega)
theorem UpI.start {hs : List It} {x : It} (h : HpI hs hs.length) : UpI (hs ++ [x]) hs.length (hs ++ [x]).length := by
  have he : ∀ k, k < hs.length → atI (hs ++ [x]) k = atI hs k := fun k hk => by simp [atI, List.getD, List.getElem?_append_left hk]
  have hl : (hs ++ [x]).length = hs.length + 1 := by simp
  rw [hl]
  refine ⟨fun k h1 h2 h3 => ?_, fun k h1 h2 h3 h4 => by omega⟩
  rw [he k (by omega), he _ (by omega)]
  exact h k h1 (by omega)
theorem DnI.start {hs : List It} {n : Nat} (h : HpI hs (n + 1)) (hl : hs.length = n + 1) : DnI (swI hs 0 n) 0 n := by
  have sa := swI_at (hs := hs) (i := 0) (j := n) (by omega) (by omega)
  refine ⟨fun k h1 h2 h3 => ?_, fun k h1 h2 h3 h4 => by omega⟩
  rw [sa k, sa ((k - 1) / 2), if_neg (by omega), if_neg (by omega), if_neg (by omega), if_neg (by omega)]
  exact h k h1 (by omega)
end Go.Proofs.Ytgcpdifggjkdhab
