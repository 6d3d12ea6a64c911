/- SHELVES OVER LISTS: what is laid: a new item in its place, or the item that is there with a later stamp. What stays right; what is fetched of it. -/
import Derived.Test.YtfoncmeplofedafBun
namespace Go.Proofs.Ytfoncmeplofedaf
open Go.RowKit
set_option linter.unusedVariables false
/-- in its place -/
def insI (l : List It) (x : It) : List It := (l.filter fun q => decide (q.1 < x.1)) ++ x :: l.filter fun q => decide (x.1 < q.1)
theorem insI_blobs (l : List It) (x : It) : itBs (insI l x) = insB (itBs l) (itB x) := by
  unfold insI insB itBs
  rw [List.map_append, List.map_cons, List.filter_map, List.filter_map]
  rfl
theorem insI_mem {l : List It} {x q : It} (hn : ∀ p ∈ l, p.1 ≠ x.1) : q ∈ insI l x ↔ q = x ∨ q ∈ l := by
  unfold insI
  rw [List.mem_append, List.mem_cons, List.mem_filter, List.mem_filter, decide_eq_true_eq, decide_eq_true_eq]
  constructor
  · rintro (h | h | h)
    · exact Or.inr h.1
    · exact Or.inl h
    · exact Or.inr h.1
  · rintro (h | h)
    · exact Or.inr (Or.inl h)
    · rcases Int.lt_trichotomy q.1 x.1 with g | g | g
      · exact Or.inl ⟨h, g⟩
      · exact absurd g (hn q h)
      · exact Or.inr (Or.inr ⟨h, g⟩)
theorem insI_len {l : List It} {x : It} (hn : ∀ p ∈ l, p.1 ≠ x.1) : (insI l x).length = l.length + 1 := by
  have h := insB_len (l := itBs l) (p := itB x) (fun q hq => by obtain ⟨p, hp, rfl⟩ := List.mem_map.1 hq; exact hn p hp)
  rw [← insI_blobs, List.length_map, List.length_map] at h
  exact h
theorem insI_at {l : List It} {x : It} {k : Nat} (hr : l.Pairwise (fun p q => p.1 < q.1)) (hn : ∀ p ∈ l, p.1 ≠ x.1) (hk : k ≤ l.length) (h1 : ∀ j, j < k → (l.getD j it0).1 < x.1) (h2 : k < l.length → ¬ (l.getD k it0).1 < x.1) : insI l x = l.take k ++ [x] ++ l.drop k := by
  have e : l = l.take k ++ l.drop k := (List.take_append_drop k l).symm
  have ht : ∀ p ∈ l.take k, p.1 < x.1 := fun p hp => by
    obtain ⟨j, hj, rfl⟩ := List.getElem_of_mem hp
    rw [List.length_take] at hj
    have := h1 j (by omega)
    rw [getD_it (by omega)] at this
    rw [List.getElem_take]
    exact this
  have hd : ∀ p ∈ l.drop k, x.1 < p.1 := fun p hp => by
    obtain ⟨j, hj, rfl⟩ := List.getElem_of_mem hp
    rw [List.length_drop] at hj
    have h3 := h2 (by omega)
    rw [getD_it (by omega)] at h3
    rw [List.getElem_drop]
    have h4 := hn l[k + j] (List.getElem_mem _)
    rcases Nat.eq_zero_or_pos j with h0 | h0
    · subst h0
      simp only [Nat.add_zero] at h4 ⊢
      omega
    · have h5 := List.pairwise_iff_getElem.1 hr k (k + j) (by omega) (by omega) (by omega)
      omega
  unfold insI
  have a1 : l.filter (fun q => decide (q.1 < x.1)) = l.take k := by
    conv => lhs; rw [e]
    rw [List.filter_append, List.filter_eq_self.2 (fun p hp => decide_eq_true (ht p hp)), List.filter_eq_nil_iff.2 (fun p hp => by have := hd p hp; simp; omega), List.append_nil]
  have a2 : l.filter (fun q => decide (x.1 < q.1)) = l.drop k := by
    conv => lhs; rw [e]
    rw [List.filter_append, List.filter_eq_self.2 (fun p hp => decide_eq_true (hd p hp)), List.filter_eq_nil_iff.2 (fun p hp => by have := ht p hp; simp; omega), List.nil_append]
  rw [a1, a2, List.append_assoc]
  rfl
/-- a later stamp -/
def moreP (st : Int) (p : It) : It := (p.1, p.2.1, (if p.2.2.1 < st then st else p.2.2.1), p.2.2.2.1, p.2.2.2.2 && !decide (p.2.2.2.1 < st))
def moreL (d st : Int) (l : List It) : List It := l.map fun p => if p.1 = d then moreP st p else p
theorem moreL_blobs (d st : Int) (l : List It) : itBs (moreL d st l) = itBs l := by
  unfold itBs moreL
  rw [List.map_map]
  apply List.map_congr_left
  intro p _
  show itB (if p.1 = d then moreP st p else p) = itB p
  split <;> rfl
theorem moreL_at {l : List It} {k : Nat} (st : Int) (hr : l.Pairwise (fun p q => p.1 < q.1)) (hk : k < l.length) : moreL (l.getD k it0).1 st l = l.set k (moreP st (l.getD k it0)) := by
  rw [getD_it hk]
  apply List.ext_getElem
  · simp [moreL]
  · intro j h1 h2
    have hj : j < l.length := by simpa [moreL] using h1
    rw [List.getElem_set]
    simp only [moreL, List.getElem_map]
    by_cases e : k = j
    · subst e
      simp
    · rw [if_neg e, if_neg]
      intro e2
      rcases Nat.lt_or_gt_of_ne e with g | g
      · have := List.pairwise_iff_getElem.1 hr k j hk hj g; omega
      · have := List.pairwise_iff_getElem.1 hr j k hj hk g; omega
/-- what is laid on a right shelf, with a right stamp -/
def laidN (l : List It) (t : ByteArray) (st : Int) : List It × Int × Int :=
  if (putT (itBs l) t).2.2 = 0 then (insI l (digest t, t, st, 0, false), digest t, 0)
  else if (putT (itBs l) t).2.2 = 1 then (moreL (digest t) st l, digest t, 1)
  else (l, 0, (putT (itBs l) t).2.2)
def laidT (r : Int) (l : List It) (t : ByteArray) (st : Int) : (Int × List It) × Int × Int :=
  if shelfB r l = true then (if 0 ≤ st ∧ st ≤ 100000 then ((r, (laidN l t st).1), (laidN l t st).2) else ((r, l), 0, 4)) else ((0, []), 0, 4)
/-- the codes of a right store -/
theorem put_codes {l : List Bl} {s : ByteArray} (h : storeB l = true) :
    ((putT l s).2.2 = 0 ∧ s.size ≤ 2000 ∧ findB l (digest s) = none ∧ l.length ≠ 300 ∧ putT l s = (insB l (digest s, s), digest s, 0)) ∨
    ((putT l s).2.2 = 1 ∧ s.size ≤ 2000 ∧ findB l (digest s) = some (digest s, s) ∧ putT l s = (l, digest s, 1)) ∨
    ((putT l s).2.2 ≠ 0 ∧ (putT l s).2.2 ≠ 1 ∧ putT l s = (l, 0, (putT l s).2.2)) := by
  by_cases hb : 2000 < s.size
  · have e : putT l s = (l, 0, 4) := by unfold putT; rw [if_pos h, if_pos hb]
    rw [e]
    exact Or.inr (Or.inr ⟨by simp, by simp, rfl⟩)
  cases hf : findB l (digest s) with
  | some p =>
    obtain ⟨p1, p2⟩ := findB_some hf
    by_cases hp : p.2 = s
    · have e : putT l s = (l, digest s, 1) := by unfold putT; rw [if_pos h, if_neg hb, hf]; simp only [if_pos hp]
      rw [e]
      refine Or.inr (Or.inl ⟨rfl, by omega, ?_, rfl⟩)
      rw [← p2, ← hp]
    · have e : putT l s = (l, 0, 2) := by unfold putT; rw [if_pos h, if_neg hb, hf]; simp only [if_neg hp]
      rw [e]
      exact Or.inr (Or.inr ⟨by simp, by simp, rfl⟩)
  | none =>
    by_cases h300 : l.length = 300
    · have e : putT l s = (l, 0, 3) := by unfold putT; rw [if_pos h, if_neg hb, hf]; simp only [if_pos h300]
      rw [e]
      exact Or.inr (Or.inr ⟨by simp, by simp, rfl⟩)
    · have e : putT l s = (insB l (digest s, s), digest s, 0) := by unfold putT; rw [if_pos h, if_neg hb, hf]; simp only [if_neg h300]
      rw [e]
      exact Or.inl ⟨rfl, by omega, rfl, h300, rfl⟩
theorem laid_blobs {l : List It} {t : ByteArray} {st : Int} (h : storeB (itBs l) = true) : itBs (laidN l t st).1 = (putT (itBs l) t).1 := by
  unfold laidN
  rcases put_codes (s := t) h with ⟨h0, _, _, _, e⟩ | ⟨h0, _, _, e⟩ | ⟨h0, h1, e⟩
  · rw [if_pos h0, insI_blobs, e]
  · rw [if_neg (by rw [h0]; decide), if_pos h0, moreL_blobs, e]
  · rw [if_neg h0, if_neg h1, e]
theorem laid_rest {l : List It} {t : ByteArray} {st : Int} (h : storeB (itBs l) = true) : (laidN l t st).2 = (putT (itBs l) t).2 := by
  unfold laidN
  rcases put_codes (s := t) h with ⟨h0, _, _, _, e⟩ | ⟨h0, _, _, e⟩ | ⟨h0, h1, e⟩
  · rw [if_pos h0, e]
  · rw [if_neg (by rw [h0]; decide), if_pos h0, e]
  · rw [if_neg h0, if_neg h1]
    conv => rhs; rw [e]
theorem moreP_right {st : Int} {p : It} (h : itemP p) (hs : 0 ≤ st ∧ st ≤ 100000) : itemP (moreP st p) := by
  obtain ⟨⟨a1, a2⟩, ⟨b1, b2⟩, c⟩ := h
  unfold itemP moreP
  refine ⟨⟨?_, ?_⟩, ⟨b1, ?_⟩, fun e => ?_⟩
  · simp only; split <;> omega
  · simp only; split <;> omega
  · simp only; split <;> omega
  · simp only [Bool.and_eq_true, Bool.not_eq_true', decide_eq_false_iff_not] at e
    have := c e.1
    simp only
    rw [if_neg (by omega)]
    exact this
/-- a shelf stays right -/
theorem laid_right {r : Int} {l : List It} {t : ByteArray} {st : Int} (h : shelfB r l = true) (hs : 0 ≤ st ∧ st ≤ 100000) : shelfB r (laidN l t st).1 = true := by
  obtain ⟨h1, h2, h3⟩ := shelfB_iff.1 h
  refine shelfB_iff.2 ⟨h1, ?_, fun p hp => ?_⟩
  · rw [laid_blobs h2]
    rcases put_codes (s := t) h2 with ⟨h0, _⟩ | ⟨h0, _⟩ | ⟨_, _, e⟩
    · exact (put_ok h2 (Or.inl h0)).1
    · exact (put_ok h2 (Or.inr h0)).1
    · rw [e]; exact h2
  · unfold laidN at hp
    rcases put_codes (s := t) h2 with ⟨h0, _, hf, _, e⟩ | ⟨h0, _, _, e⟩ | ⟨h0, h9, e⟩
    · rw [if_pos h0] at hp
      have hn : ∀ q ∈ l, q.1 ≠ (digest t, t, st, (0 : Int), false).1 := fun q hq => findB_none.1 hf (itB q) (List.mem_map_of_mem hq)
      rcases (insI_mem hn).1 hp with rfl | hq
      · exact ⟨hs, ⟨Int.le_refl 0, hs.1⟩, fun e => by cases e⟩
      · exact h3 p hq
    · rw [if_neg (by rw [h0]; decide), if_pos h0] at hp
      obtain ⟨q, hq, rfl⟩ := List.mem_map.1 hp
      split
      · exact moreP_right (h3 q hq) hs
      · exact h3 q hq
    · rw [if_neg h0, if_neg h9] at hp
      exact h3 p hp
theorem laid_fetched {r : Int} {l : List It} {t : ByteArray} {st : Int} (h : shelfB r l = true) (hs : 0 ≤ st ∧ st ≤ 100000) (hk : (laidN l t st).2.2 = 0 ∨ (laidN l t st).2.2 = 1) : fetchedT r (laidN l t st).1 (digest t) = some t := by
  obtain ⟨h1, h2, h3⟩ := shelfB_iff.1 h
  unfold fetchedT
  rw [if_pos (laid_right h hs), laid_blobs h2]
  rw [laid_rest h2] at hk
  exact (put_ok h2 hk).2.2.1
theorem laid_same {l : List It} {t : ByteArray} {st : Int} (hk : (laidN l t st).2.2 ≠ 0 ∧ (laidN l t st).2.2 ≠ 1) : (laidN l t st).1 = l := by
  unfold laidN at hk ⊢
  split at hk
  · exact absurd rfl hk.1
  · rename_i h0
    split at hk
    · exact absurd rfl hk.2
    · rename_i h1
      rw [if_neg h0, if_neg h1]
theorem laid_len {l : List It} {t : ByteArray} {st : Int} (h : storeB (itBs l) = true) : (laidN l t st).1.length ≤ l.length + 1 := by
  have e := congrArg List.length (laid_blobs (t := t) (st := st) h)
  rw [List.length_map] at e
  rw [e]
  rcases put_codes (s := t) h with ⟨h0, _⟩ | ⟨_, _, _, e2⟩ | ⟨_, _, e2⟩
  · rw [(put_ok h (Or.inl h0)).2.2.2.2.2 h0, List.length_map]; exact Nat.le_refl _
  · rw [e2, List.length_map]; omega
  · rw [e2, List.length_map]; omega
end Go.Proofs.Ytfoncmeplofedaf
