/- SCORES, over lists: the ranks of nodes by score (the greatest first, of alike ones the least first); the winner; few move. It speaks of no function of the program. -/
import Derived.Test.YtidmaaglfckcbapDoorRngN
namespace Go.Proofs.YtidmaaglfckcbapDoor
set_option linter.unusedVariables false
/-- the text of a node and a key -/
def scoX (n k : Nat) : ByteArray := (decN n ++ ⟨#[47]⟩) ++ decN k
def scoT (n k : Int) : Int := if 0 ≤ n ∧ 0 ≤ k then digest (scoX n.toNat k.toNat) else -1
/-- a goes ahead of b -/
def ahdT (k a b : Int) : Prop := scoT b k < scoT a k ∨ (scoT a k = scoT b k ∧ a < b)
def NodesK (l : List Int) (k : Int) : Prop := NodesP l 4611686018427387904 ∧ 0 ≤ k
/-- the ranks: all of them, in order -/
def IsRanks (l : List Int) (k : Int) (r : List Int) : Prop := r.Perm l ∧ r.Pairwise (ahdT k)
theorem ahd_asymm {k a b : Int} (h : ahdT k a b) : ¬ ahdT k b a := fun h2 => by
  rcases h with h | ⟨h, h3⟩ <;> rcases h2 with h2 | ⟨h2, h4⟩ <;> omega
theorem ahd_total {k a b : Int} (h : a ≠ b) : ahdT k a b ∨ ahdT k b a := by
  unfold ahdT
  omega
theorem ahd_trans {k a b c : Int} (h : ahdT k a b) (h2 : ahdT k b c) : ahdT k a c := by
  unfold ahdT at *
  omega
/-- there is one such row at most -/
theorem ranks_same {l : List Int} {k : Int} {r s : List Int} (h : IsRanks l k r) (h2 : IsRanks l k s) : r = s :=
  List.Perm.eq_of_pairwise (le := ahdT k) (fun a b _ _ h3 h4 => absurd h4 (ahd_asymm h3)) h.2 h2.2 (h.1.trans h2.1.symm)
theorem ranks_len {l : List Int} {k : Int} {r : List Int} (h : IsRanks l k r) : r.length = l.length := h.1.length_eq
/-- without one: what is left, in the same order -/
theorem ranks_filter {l : List Int} {k : Int} {r : List Int} (h : IsRanks l k r) (p : Int → Bool) : IsRanks (l.filter p) k (r.filter p) := ⟨h.1.filter p, h.2.sublist List.filter_sublist⟩
theorem nodes_filter {l : List Int} {m : Int} (h : NodesP l m) (p : Int → Bool) (h1 : 1 ≤ (l.filter p).length) : NodesP (l.filter p) m :=
  ⟨⟨h1, Nat.le_trans (List.length_filter_le _ _) h.1.2⟩, fun x hx => h.2.1 x (List.mem_filter.1 hx).1, h.2.2.sublist List.filter_sublist⟩
/-- one step: the first of those that are left -/
theorem ranks_step {k : Int} {r : List Int} {x : Int} (hr : r.Pairwise (ahdT k)) (hx : ∀ y ∈ r, ahdT k y x) : (r ++ [x]).Pairwise (ahdT k) :=
  List.pairwise_append.2 ⟨hr, List.pairwise_singleton _ _, fun a ha b hb => by rw [List.mem_singleton.1 hb]; exact hx a ha⟩
/-- the walk of the plain ranks: what is told so far, and which are used -/
def RnkP (k : Int) (l H : List Int) (U : List Bool) : Prop := H.Pairwise (ahdT k) ∧ (∀ x ∈ H, x ∈ l) ∧ U.length = l.length ∧ (∀ j, j < l.length → U.getD j false = decide (l.getD j 0 ∈ H)) ∧ ∀ y ∈ H, ∀ z ∈ l, z ∉ H → ahdT k y z
/-- the best of the first i that are not used -/
def BestI (k : Int) (l : List Int) (U : List Bool) (i : Nat) (z : Int) : Prop := (z < 0 ∧ z = -1 ∧ ∀ j, j < i → U.getD j false = true) ∨ ∃ b : Nat, z = (b : Int) ∧ b < i ∧ U.getD b false = false ∧ ∀ j, j < i → U.getD j false = false → l.getD j 0 = l.getD b 0 ∨ ahdT k (l.getD b 0) (l.getD j 0)
theorem rnk_start (k : Int) (l : List Int) : RnkP k l [] (List.replicate l.length false) := ⟨List.Pairwise.nil, (fun x hx => by cases hx), List.length_replicate, fun j hj => by simp [List.getD, hj], fun y hy => by cases hy⟩
theorem best_start (k : Int) (l : List Int) (U : List Bool) : BestI k l U 0 (-1) := Or.inl ⟨by omega, rfl, fun j hj => by omega⟩
theorem best_used {k : Int} {l : List Int} {U : List Bool} {i : Nat} {z : Int} (h : BestI k l U i z) (hu : U.getD i false = true) : BestI k l U (i + 1) z := by
  rcases h with ⟨h1, h2, h3⟩ | ⟨b, h1, h2, h3, h4⟩
  · exact Or.inl ⟨h1, h2, fun j hj => by
      by_cases e : j = i
      · rw [e]; exact hu
      · exact h3 j (by omega)⟩
  · exact Or.inr ⟨b, h1, by omega, h3, fun j hj hf => by
      by_cases e : j = i
      · rw [e, hu] at hf; cases hf
      · exact h4 j (by omega) hf⟩
theorem best_first {k : Int} {l : List Int} {U : List Bool} {i : Nat} {z : Int} (h : BestI k l U i z) (hz : z < 0) (hu : U.getD i false = false) : BestI k l U (i + 1) (i : Int) := by
  rcases h with ⟨_, _, h3⟩ | ⟨b, h1, _⟩
  · exact Or.inr ⟨i, rfl, by omega, hu, fun j hj hf => by
      by_cases e : j = i
      · rw [e]; exact Or.inl rfl
      · rw [h3 j (by omega)] at hf; cases hf⟩
  · omega
theorem best_more {k : Int} {l : List Int} {U : List Bool} {i b : Nat} (h : BestI k l U i (b : Int)) (hu : U.getD i false = false) (ha : ahdT k (l.getD i 0) (l.getD b 0)) : BestI k l U (i + 1) (i : Int) := by
  rcases h with ⟨h1, _⟩ | ⟨b', h1, h2, h3, h4⟩
  · omega
  · obtain rfl : b' = b := by omega
    exact Or.inr ⟨i, rfl, by omega, hu, fun j hj hf => by
      by_cases e : j = i
      · rw [e]; exact Or.inl rfl
      · rcases h4 j (by omega) hf with h5 | h5
        · rw [h5]; exact Or.inr ha
        · exact Or.inr (ahd_trans ha h5)⟩
theorem best_keep {k : Int} {l : List Int} {U : List Bool} {i b : Nat} (h : BestI k l U i (b : Int)) (ha : ¬ ahdT k (l.getD i 0) (l.getD b 0)) : BestI k l U (i + 1) (b : Int) := by
  rcases h with ⟨h1, _⟩ | ⟨b', h1, h2, h3, h4⟩
  · omega
  · obtain rfl : b' = b := by omega
    refine Or.inr ⟨b', rfl, by omega, h3, fun j hj hf => ?_⟩
    by_cases e : j = i
    · rw [e]
      by_cases e2 : l.getD i 0 = l.getD b' 0
      · exact Or.inl e2
      · rcases ahd_total (k := k) e2 with h5 | h5
        · exact absurd h5 ha
        · exact Or.inr h5
    · exact h4 j (by omega) hf
theorem best_is {k : Int} {l : List Int} {U : List Bool} {i : Nat} {z : Int} (h : BestI k l U i z) (hz : ¬ z < 0) : ∃ b : Nat, z = (b : Int) ∧ b < i := by
  rcases h with ⟨h1, _⟩ | ⟨b, h1, h2, _⟩
  · exact absurd h1 hz
  · exact ⟨b, h1, h2⟩
theorem ahd_nodup {k : Int} {H : List Int} (h : H.Pairwise (ahdT k)) : H.Nodup := h.imp (fun {a b} h9 e => by subst e; exact ahd_asymm h9 h9)
theorem best_end {k : Int} {l H : List Int} {U : List Bool} {z : Int} (hn : l.Nodup) (hr : RnkP k l H U) (hl : H.length < l.length) (h : BestI k l U l.length z) :
    ∃ b : Nat, z = (b : Int) ∧ b < l.length ∧ RnkP k l (H ++ [l.getD b 0]) (U.set b true) := by
  obtain ⟨r1, r2, r3, r4, r5⟩ := hr
  rcases h with ⟨_, _, h3⟩ | ⟨b, h1, h2, h3, h4⟩
  · exfalso
    have hsub : l ⊆ H := fun x hx => by
      obtain ⟨j, hj, e⟩ := List.getElem_of_mem hx
      have h5 := h3 j hj
      rw [r4 j hj, decide_eq_true_eq, getD_int hj, e] at h5
      exact h5
    have := hn.length_le_of_subset hsub
    omega
  · have hx : l.getD b 0 ∉ H := by
      rw [r4 b h2, decide_eq_false_iff_not] at h3
      exact h3
    have hxl : l.getD b 0 ∈ l := by rw [getD_int h2]; exact List.getElem_mem h2
    refine ⟨b, h1, h2, ranks_step r1 (fun y hy => r5 y hy _ hxl hx), fun x hx9 => ?_, by rw [List.length_set]; exact r3, fun j hj => ?_, fun y hy z hz hzn => ?_⟩
    · rcases List.mem_append.1 hx9 with h | h
      · exact r2 x h
      · rw [List.mem_singleton.1 h]; exact hxl
    · by_cases e : j = b
      · subst e
        have h5 : (U.set j true).getD j false = true := by simp [List.getD, r3, hj]
        rw [h5, decide_eq_true (List.mem_append.2 (Or.inr (List.mem_singleton.2 rfl)))]
      · have h5 : (U.set b true).getD j false = U.getD j false := by simp [List.getD, List.getElem?_set_ne (Ne.symm e)]
        rw [h5, r4 j hj]
        have h6 : l.getD j 0 ≠ l.getD b 0 := fun h9 => by
          rw [getD_int hj, getD_int h2] at h9
          have hpw := List.pairwise_iff_getElem.1 hn
          rcases Nat.lt_or_ge j b with h10 | h10
          · exact hpw j b hj h2 h10 h9
          · exact hpw b j h2 hj (by omega) h9.symm
        by_cases h7 : l.getD j 0 ∈ H
        · rw [decide_eq_true h7, decide_eq_true (List.mem_append.2 (Or.inl h7))]
        · rw [decide_eq_false h7, decide_eq_false (fun h8 => by
            rcases List.mem_append.1 h8 with h8 | h8
            · exact h7 h8
            · exact h6 (List.mem_singleton.1 h8))]
    · have hzH : z ∉ H := fun h9 => hzn (List.mem_append.2 (Or.inl h9))
      have hzx : z ≠ l.getD b 0 := fun h9 => hzn (List.mem_append.2 (Or.inr (List.mem_singleton.2 h9)))
      rcases List.mem_append.1 hy with h | h
      · exact r5 y h z hz hzH
      · rw [List.mem_singleton.1 h]
        obtain ⟨j, hj, e⟩ := List.getElem_of_mem hz
        have hz2 : l.getD j 0 = z := by rw [getD_int hj]; exact e
        rcases h4 j hj (by rw [r4 j hj, decide_eq_false_iff_not, hz2]; exact hzH) with h5 | h5
        · rw [hz2] at h5; exact absurd h5 hzx
        · rwa [hz2] at h5
theorem rnk_end {k : Int} {l H : List Int} {U : List Bool} (hn : l.Nodup) (hr : RnkP k l H U) (hl : H.length = l.length) : IsRanks l k H := by
  obtain ⟨r1, r2, _⟩ := hr
  have hH := ahd_nodup r1
  refine ⟨(List.perm_ext_iff_of_nodup hH hn).2 fun a => ⟨fun h => r2 a h, fun h => ?_⟩, r1⟩
  by_cases hm : a ∈ H
  · exact hm
  · exfalso
    have h9 : (a :: H).Nodup := List.nodup_cons.2 ⟨hm, hH⟩
    have := h9.length_le_of_subset (l₂ := l) (fun x hx => by
      rcases List.mem_cons.1 hx with h2 | h2
      · rw [h2]; exact h
      · exact r2 x h2)
    rw [List.length_cons] at this
    omega
end Go.Proofs.YtidmaaglfckcbapDoor
