/- SAID AGAIN, over lists of numbers: the longest that came ahead, what is squeezed, what is loosed, and that the one takes back the other. It speaks of no function of the program. -/
namespace Go.Proofs.Ytgcpdifggjkdhab.Sq

/-- how many of the first k from a on are as those from p on -/
def runK (L : List Int) (p a : Nat) : Nat → Nat
  | 0 => 0
  | k + 1 => if runK L p a k = k ∧ a + k < L.length ∧ L.getD (p + k) 0 = L.getD (a + k) 0 then k + 1 else runK L p a k
/-- they go on alike -/
def On (L : List Int) (p a n : Nat) : Prop := a + n < L.length ∧ L.getD (p + n) 0 = L.getD (a + n) 0
theorem runK_le (L : List Int) (p a : Nat) : ∀ k, runK L p a k ≤ k
  | 0 => Nat.le_refl _
  | k + 1 => by
    unfold runK
    split
    · exact Nat.le_refl _
    · exact Nat.le_succ_of_le (runK_le L p a k)
theorem runK_on (L : List Int) (p a : Nat) : ∀ k i, i < runK L p a k → On L p a i
  | 0, i, h => by simp [runK] at h
  | k + 1, i, h => by
    unfold runK at h
    split at h
    · rename_i hc
      rcases Nat.lt_or_ge i k with h1 | h1
      · exact runK_on L p a k i (by rw [hc.1]; exact h1)
      · obtain rfl : i = k := by omega
        exact hc.2
    · exact runK_on L p a k i h
theorem runK_end (L : List Int) (p a : Nat) : ∀ k, runK L p a k = k ∨ ¬ On L p a (runK L p a k)
  | 0 => Or.inl rfl
  | k + 1 => by
    unfold runK
    split
    · exact Or.inl rfl
    · rename_i hc
      right
      rcases runK_end L p a k with h | h
      · rw [h]
        intro ho
        exact hc ⟨h, ho⟩
      · exact h
theorem runK_is {L : List Int} {p a k n : Nat} (h1 : n ≤ k) (h2 : ∀ i, i < n → On L p a i) (h3 : n = k ∨ ¬ On L p a n) : runK L p a k = n := by
  have g1 := runK_le L p a k
  rcases Nat.lt_trichotomy (runK L p a k) n with h | h | h
  · rcases runK_end L p a k with g | g
    · omega
    · exact absurd (h2 _ h) g
  · exact h
  · rcases h3 with g | g
    · omega
    · exact absurd (runK_on L p a k n h) g
theorem runK_len (L : List Int) (p a k : Nat) : a + runK L p a k ≤ L.length ∨ runK L p a k = 0 := by
  by_cases h : runK L p a k = 0
  · exact Or.inr h
  · left
    have := (runK_on L p a k (runK L p a k - 1) (by omega)).1
    omega

/-- how many, of at most 60, are as those d ahead -/
def run (L : List Int) (a d : Nat) : Nat := runK L (a - d) a 60
/-- the longest of 4 or more among the d nearest, and how far back the nearest of those is -/
def bestK (L : List Int) (a : Nat) : Nat → Nat × Nat
  | 0 => (0, 0)
  | d + 1 => if 4 ≤ run L a (d + 1) ∧ (bestK L a d).1 < run L a (d + 1) then (run L a (d + 1), d + 1) else bestK L a d
def best (L : List Int) (a : Nat) : Nat × Nat := bestK L a (min 200 a)
theorem bestK_in (L : List Int) (a : Nat) : ∀ d, ((bestK L a d).1 = 0 ∧ (bestK L a d).2 = 0) ∨ (4 ≤ (bestK L a d).1 ∧ (bestK L a d).1 ≤ 60 ∧ 1 ≤ (bestK L a d).2 ∧ (bestK L a d).2 ≤ d ∧ (bestK L a d).1 = run L a (bestK L a d).2)
  | 0 => Or.inl ⟨rfl, rfl⟩
  | d + 1 => by
    unfold bestK
    split
    · rename_i hc
      have h60 : run L a (d + 1) ≤ 60 := runK_le L (a - (d + 1)) a 60
      have h4 := hc.1
      refine Or.inr ?_
      dsimp only
      generalize run L a (d + 1) = r at *
      exact ⟨h4, h60, Nat.succ_le_succ (Nat.zero_le _), Nat.le_refl _, rfl⟩
    · rcases bestK_in L a d with h | ⟨h1, h2, h3, h4, h5⟩
      · exact Or.inl h
      · exact Or.inr ⟨h1, h2, h3, by omega, h5⟩
/-- nothing better from d to e: the same -/
theorem bestK_same {L : List Int} {a d : Nat} : ∀ e, d ≤ e → (∀ k, d < k → k ≤ e → run L a k < 4 ∨ run L a k ≤ (bestK L a d).1) → bestK L a e = bestK L a d
  | 0, h, _ => by rw [Nat.le_zero.1 h]
  | e + 1, h, hk => by
    rcases Nat.lt_or_ge d (e + 1) with h1 | h1
    · have ih := bestK_same e (by omega) (fun k a1 a2 => hk k a1 (by omega))
      rw [bestK, ih]
      have := hk (e + 1) h1 (Nat.le_refl _)
      rw [if_neg (by omega)]
    · rw [show d = e + 1 by omega]
theorem best_in (L : List Int) (a : Nat) : ((best L a).1 = 0 ∧ (best L a).2 = 0) ∨ (4 ≤ (best L a).1 ∧ (best L a).1 ≤ 60 ∧ 1 ≤ (best L a).2 ∧ (best L a).2 ≤ 200 ∧ (best L a).2 ≤ a ∧ (best L a).1 = run L a (best L a).2) := by
  unfold best
  rcases bestK_in L a (min 200 a) with h | ⟨h1, h2, h3, h4, h5⟩
  · exact Or.inl h
  · exact Or.inr ⟨h1, h2, h3, by omega, by omega, h5⟩
theorem best_len {L : List Int} {a : Nat} (h : a ≤ L.length) : a + (best L a).1 ≤ L.length := by
  rcases best_in L a with ⟨h1, _⟩ | ⟨h1, _, _, _, _, h5⟩
  · omega
  · rcases runK_len L (a - (best L a).2) a 60 with g | g
    · rw [h5]; exact g
    · have : run L a (best L a).2 = 0 := g
      omega

/-- what is told from a on -/
def sqF (L : List Int) : Nat → Nat → List Int
  | 0, _ => []
  | f + 1, a => if a < L.length then (if 0 < (best L a).1 then [1, ((best L a).1 : Int) - 3, ((best L a).2 : Int)] ++ sqF L f (a + (best L a).1) else if L.getD a 0 = 1 then [1, 0] ++ sqF L f (a + 1) else [L.getD a 0] ++ sqF L f (a + 1)) else []
theorem sqF_same (L : List Int) : ∀ f g a, L.length - a ≤ f → L.length - a ≤ g → sqF L f a = sqF L g a
  | 0, 0, _, _, _ => rfl
  | 0, g + 1, a, h, _ => by rw [sqF, sqF, if_neg (by omega)]
  | f + 1, 0, a, _, h => by rw [sqF, sqF, if_neg (by omega)]
  | f + 1, g + 1, a, h1, h2 => by
    rw [sqF, sqF]
    by_cases ha : a < L.length
    · rw [if_pos ha, if_pos ha]
      by_cases hb : 0 < (best L a).1
      · rw [if_pos hb, if_pos hb, sqF_same L f g _ (by omega) (by omega)]
      · rw [if_neg hb, if_neg hb, sqF_same L f g (a + 1) (by omega) (by omega)]
    · rw [if_neg ha, if_neg ha]
/-- what is told from a on, all of it -/
def sq (L : List Int) (a : Nat) : List Int := sqF L (L.length - a) a
theorem sq_end {L : List Int} {a : Nat} (h : L.length ≤ a) : sq L a = [] := by
  unfold sq
  rw [show L.length - a = 0 by omega]
  rfl
theorem sq_more {L : List Int} {a : Nat} (h : a < L.length) (hb : 0 < (best L a).1) : sq L a = [1, ((best L a).1 : Int) - 3, ((best L a).2 : Int)] ++ sq L (a + (best L a).1) := by
  unfold sq
  rw [show L.length - a = (L.length - a - 1) + 1 by omega, sqF, if_pos h, if_pos hb, sqF_same L _ (L.length - (a + (best L a).1)) _ (by omega) (by omega)]
theorem sq_one {L : List Int} {a : Nat} (h : a < L.length) (hb : ¬ 0 < (best L a).1) (h1 : L.getD a 0 = 1) : sq L a = [1, 0] ++ sq L (a + 1) := by
  unfold sq
  rw [show L.length - a = (L.length - a - 1) + 1 by omega, sqF, if_pos h, if_neg hb, if_pos h1, sqF_same L _ (L.length - (a + 1)) _ (by omega) (by omega)]
theorem sq_byte {L : List Int} {a : Nat} (h : a < L.length) (hb : ¬ 0 < (best L a).1) (h1 : ¬ L.getD a 0 = 1) : sq L a = [L.getD a 0] ++ sq L (a + 1) := by
  unfold sq
  rw [show L.length - a = (L.length - a - 1) + 1 by omega, sqF, if_pos h, if_neg hb, if_neg h1, sqF_same L _ (L.length - (a + 1)) _ (by omega) (by omega)]
/-- by the three ways from a on -/
theorem sq_rec {L : List Int} {P : Nat → Prop} (h0 : ∀ a, L.length ≤ a → P a) (hm : ∀ a, a < L.length → 0 < (best L a).1 → P (a + (best L a).1) → P a)
    (hs : ∀ a, a < L.length → ¬ 0 < (best L a).1 → P (a + 1) → P a) : ∀ a, P a := by
  have key : ∀ f a, L.length - a ≤ f → P a := by
    intro f
    induction f with
    | zero => intro a h; exact h0 a (by omega)
    | succ f ih =>
      intro a h
      by_cases ha : a < L.length
      · by_cases hb : 0 < (best L a).1
        · exact hm a ha hb (ih _ (by omega))
        · exact hs a ha hb (ih _ (by omega))
      · exact h0 a (by omega)
  exact fun a => key _ a (Nat.le_refl _)
theorem sq_bytes {L : List Int} (hL : ∀ x ∈ L, 0 ≤ x ∧ x ≤ 255) : ∀ a, ∀ x ∈ sq L a, 0 ≤ x ∧ x ≤ 255 := by
  refine sq_rec (L := L) (fun a h x hx => ?_) (fun a h hb ih x hx => ?_) (fun a h hb ih x hx => ?_)
  · rw [sq_end h] at hx; cases hx
  · rw [sq_more h hb] at hx
    rcases best_in L a with ⟨g, _⟩ | ⟨g1, g2, g3, g4, g5, _⟩
    · omega
    rcases List.mem_append.1 hx with hx | hx
    · simp at hx
      omega
    · exact ih x hx
  · have hm : L.getD a 0 ∈ L := by
      have e : L.getD a 0 = L[a] := by simp [List.getD, h]
      rw [e]
      exact List.getElem_mem h
    by_cases h1 : L.getD a 0 = 1
    · rw [sq_one h hb h1] at hx
      rcases List.mem_append.1 hx with hx | hx
      · simp at hx
        omega
      · exact ih x hx
    · rw [sq_byte h hb h1] at hx
      rcases List.mem_append.1 hx with hx | hx
      · rw [List.mem_singleton.1 hx]
        exact hL _ hm
      · exact ih x hx
/-- how many 1s there are from a on -/
def ones (L : List Int) (k : Nat) : Nat := ((List.range k).map fun i => if L.getD i 0 = 1 then 1 else 0).sum
theorem ones_succ (L : List Int) (k : Nat) : ones L (k + 1) = ones L k + if L.getD k 0 = 1 then 1 else 0 := by
  unfold ones
  rw [List.range_succ, List.map_append, List.sum_append]
  simp
theorem ones_mono (L : List Int) : ∀ k e, k ≤ e → ones L k ≤ ones L e
  | k, 0, h => by rw [Nat.le_zero.1 h]; exact Nat.le_refl _
  | k, e + 1, h => by
    rcases Nat.lt_or_ge k (e + 1) with h1 | h1
    · have := ones_mono L k e (by omega)
      rw [ones_succ]
      omega
    · rw [show k = e + 1 by omega]
      exact Nat.le_refl _
theorem ones_le (L : List Int) : ∀ k, ones L k ≤ k
  | 0 => Nat.le_refl _
  | k + 1 => by
    have := ones_le L k
    rw [ones_succ]
    split <;> omega
/-- at most as many bytes more as there are 1s -/
theorem sq_len {L : List Int} : ∀ a, a ≤ L.length → a + (sq L a).length + ones L a ≤ L.length + ones L L.length := by
  refine sq_rec (L := L) (fun a h ha => ?_) (fun a h hb ih ha => ?_) (fun a h hb ih ha => ?_)
  · rw [sq_end h, show a = L.length by omega]
    simp
  · rw [sq_more h hb]
    have h2 := best_len ha
    have h3 := ih h2
    have h4 := ones_mono L a (a + (best L a).1) (by omega)
    rcases best_in L a with ⟨g, _⟩ | ⟨g1, _⟩
    · omega
    rw [List.length_append]
    simp
    omega
  · have h3 := ih (by omega)
    rw [ones_succ] at h3
    by_cases h1 : L.getD a 0 = 1
    · rw [sq_one h hb h1, List.length_append]
      rw [if_pos h1] at h3
      simp
      omega
    · rw [sq_byte h hb h1, List.length_append]
      rw [if_neg h1] at h3
      simp
      omega

/-- k bytes more, each the one that is d ahead -/
def copyN (out : List Int) (d : Nat) : Nat → List Int
  | 0 => out
  | k + 1 => copyN out d k ++ [(copyN out d k).getD ((copyN out d k).length - d) 0]
theorem copyN_len (out : List Int) (d : Nat) : ∀ k, (copyN out d k).length = out.length + k
  | 0 => rfl
  | k + 1 => by rw [copyN, List.length_append, copyN_len out d k]; rfl
/-- what is loosed, behind 'out' -/
def lo : List Int → List Int → Option (List Int)
  | [], out => if 20000 < out.length then none else some out
  | x :: t, out => if 20000 < out.length then none else if x ≠ 1 then lo t (out ++ [x]) else
    match t with
    | [] => none
    | n :: t => if n = 0 then lo t (out ++ [1]) else
      match t with
      | [] => none
      | d :: t => if 57 < n ∨ d < 1 ∨ 200 < d ∨ (out.length : Int) < d then none else lo t (copyN out d.toNat (n.toNat + 3))
theorem lo_big {t out : List Int} (h : 20000 < out.length) : lo t out = none := by
  cases t <;> unfold lo <;> rw [if_pos h]
theorem lo_nil {out : List Int} (h : ¬ 20000 < out.length) : lo [] out = some out := by unfold lo; rw [if_neg h]
theorem lo_byte {x : Int} {t out : List Int} (h : ¬ 20000 < out.length) (hx : x ≠ 1) : lo (x :: t) out = lo t (out ++ [x]) := by
  rw [lo.eq_def]
  simp only [if_neg h, if_pos hx]
theorem lo_cut {out : List Int} (h : ¬ 20000 < out.length) : lo [1] out = none := by
  rw [lo.eq_def]
  simp only [if_neg h, ne_eq, not_true_eq_false, if_false]
theorem lo_one {t out : List Int} (h : ¬ 20000 < out.length) : lo (1 :: 0 :: t) out = lo t (out ++ [1]) := by
  rw [lo.eq_def]
  simp only [if_neg h, ne_eq, not_true_eq_false, if_false, if_true]
theorem lo_cut2 {n : Int} {out : List Int} (h : ¬ 20000 < out.length) (hn : n ≠ 0) : lo [1, n] out = none := by
  rw [lo.eq_def]
  simp only [if_neg h, if_neg hn, ne_eq, not_true_eq_false, if_false]
theorem lo_bad {n d : Int} {t out : List Int} (h : ¬ 20000 < out.length) (hn : n ≠ 0) (hb : 57 < n ∨ d < 1 ∨ 200 < d ∨ (out.length : Int) < d) : lo (1 :: n :: d :: t) out = none := by
  rw [lo.eq_def]
  simp only [if_neg h, if_neg hn, if_pos hb, ne_eq, not_true_eq_false, if_false]
theorem lo_more {n d : Int} {t out : List Int} (h : ¬ 20000 < out.length) (hn : n ≠ 0) (hb : ¬ (57 < n ∨ d < 1 ∨ 200 < d ∨ (out.length : Int) < d)) : lo (1 :: n :: d :: t) out = lo t (copyN out d.toNat (n.toNat + 3)) := by
  rw [lo.eq_def]
  simp only [if_neg h, if_neg hn, if_neg hb, ne_eq, not_true_eq_false, if_false]
theorem getD_take {L : List Int} {n i : Nat} (h : i < n) : (L.take n).getD i 0 = L.getD i 0 := by simp [List.getD, h]
theorem take_snoc {L : List Int} {a : Nat} (h : a < L.length) : L.take a ++ [L.getD a 0] = L.take (a + 1) := by
  rw [List.take_succ_eq_append_getElem h]
  simp [List.getD, h]
/-- copied from the text itself -/
theorem copy_take {L : List Int} {a d : Nat} (hd : 1 ≤ d) (hda : d ≤ a) : ∀ k, (∀ i, i < k → On L (a - d) a i) → a ≤ L.length → copyN (L.take a) d k = L.take (a + k)
  | 0, _, _ => rfl
  | k + 1, h, ha => by
    have ih := copy_take hd hda k (fun i hi => h i (by omega)) ha
    obtain ⟨h1, h2⟩ := h k (by omega)
    rw [copyN, ih, List.length_take, Nat.min_eq_left (by omega), getD_take (by omega), show a + k - d = a - d + k by omega, h2, take_snoc h1]
    rfl
/-- what is squeezed is loosed -/
theorem lo_sq {L : List Int} (hl : L.length ≤ 20000) : ∀ a, a ≤ L.length → lo (sq L a) (L.take a) = some L := by
  have hln : ∀ a, ¬ 20000 < (L.take a).length := fun a => by rw [List.length_take]; omega
  refine sq_rec (L := L) (fun a h ha => ?_) (fun a h hb ih ha => ?_) (fun a h hb ih ha => ?_)
  · rw [sq_end h, lo_nil (hln a), List.take_of_length_le h]
  · rw [sq_more h hb]
    have h2 := best_len ha
    rcases best_in L a with ⟨g, _⟩ | ⟨g1, g2, g3, g4, g5, g6⟩
    · omega
    show lo (1 :: (((best L a).1 : Int) - 3) :: ((best L a).2 : Int) :: sq L (a + (best L a).1)) (L.take a) = some L
    rw [lo_more (hln a) (by omega) (by rw [List.length_take, Nat.min_eq_left ha]; omega), show (((best L a).2 : Int)).toNat = (best L a).2 by omega, show (((best L a).1 : Int) - 3).toNat + 3 = (best L a).1 by omega,
      copy_take g3 g5 (best L a).1 (fun i hi => runK_on L _ a 60 i (by rw [g6] at hi; exact hi)) ha]
    exact ih h2
  · by_cases h1 : L.getD a 0 = 1
    · rw [sq_one h hb h1]
      show lo (1 :: 0 :: sq L (a + 1)) (L.take a) = some L
      rw [lo_one (hln a), ← h1, take_snoc h]
      exact ih (by omega)
    · rw [sq_byte h hb h1]
      show lo (L.getD a 0 :: sq L (a + 1)) (L.take a) = some L
      rw [lo_byte (hln a) h1, take_snoc h]
      exact ih (by omega)
theorem lo_bytes : ∀ (f : Nat) (t out r : List Int), t.length ≤ f → (∀ x ∈ t, 0 ≤ x ∧ x ≤ 255) → (∀ x ∈ out, 0 ≤ x ∧ x ≤ 255) → lo t out = some r → (∀ x ∈ r, 0 ≤ x ∧ x ≤ 255) ∧ r.length ≤ 20000 := by
  have hcp : ∀ (out : List Int) (d k : Nat), (∀ x ∈ out, 0 ≤ x ∧ x ≤ 255) → ∀ x ∈ copyN out d k, 0 ≤ x ∧ x ≤ 255 := by
    intro out d k ho
    induction k with
    | zero => exact ho
    | succ k ih =>
      intro x hx
      rw [copyN] at hx
      rcases List.mem_append.1 hx with hx | hx
      · exact ih x hx
      · rw [List.mem_singleton.1 hx]
        generalize copyN out d k = c at ih
        by_cases hc : c.length - d < c.length
        · have e : c.getD (c.length - d) 0 = c[c.length - d] := by simp [List.getD, hc]
          rw [e]
          exact ih _ (List.getElem_mem hc)
        · have e : c.getD (c.length - d) 0 = 0 := by rw [List.getD, List.getElem?_eq_none (Nat.le_of_not_lt hc)]; rfl
          omega
  have hap : ∀ (out : List Int) (z : Int), (0 ≤ z ∧ z ≤ 255) → (∀ x ∈ out, 0 ≤ x ∧ x ≤ 255) → ∀ x ∈ out ++ [z], 0 ≤ x ∧ x ≤ 255 := fun out z hz ho x hx => by
    rcases List.mem_append.1 hx with hx | hx
    · exact ho x hx
    · rw [List.mem_singleton.1 hx]; exact hz
  intro f
  induction f with
  | zero =>
    intro t out r hf ht ho h
    have : t = [] := List.eq_nil_of_length_eq_zero (by omega)
    subst this
    by_cases hb : 20000 < out.length
    · rw [lo_big hb] at h; cases h
    · rw [lo_nil hb] at h; cases h; exact ⟨ho, by omega⟩
  | succ f ih =>
    intro t out r hf ht ho h
    by_cases hb : 20000 < out.length
    · rw [lo_big hb] at h; cases h
    match t, hf, ht, h with
    | [], _, _, h => rw [lo_nil hb] at h; cases h; exact ⟨ho, by omega⟩
    | x :: t, hf, ht, h =>
      have hf1 : t.length + 1 ≤ f + 1 := hf
      have ht1 : ∀ y ∈ t, 0 ≤ y ∧ y ≤ 255 := fun y hy => ht y (by simp [hy])
      by_cases hx : x ≠ 1
      · rw [lo_byte hb hx] at h
        exact ih t _ r (by omega) ht1 (hap _ _ (ht x (by simp)) ho) h
      · obtain rfl : x = 1 := by omega
        match t, hf1, ht1, h with
        | [], _, _, h => rw [lo_cut hb] at h; cases h
        | n :: t, hf1, ht1, h =>
          have hf2 : t.length + 1 + 1 ≤ f + 1 := hf1
          have ht2 : ∀ y ∈ t, 0 ≤ y ∧ y ≤ 255 := fun y hy => ht1 y (by simp [hy])
          by_cases hn : n = 0
          · subst hn
            rw [lo_one hb] at h
            exact ih t _ r (by omega) ht2 (hap _ _ (by omega) ho) h
          · match t, hf2, ht2, h with
            | [], _, _, h => rw [lo_cut2 hb hn] at h; cases h
            | d :: t, hf2, ht2, h =>
              have hf3 : t.length + 1 + 1 + 1 ≤ f + 1 := hf2
              have ht3 : ∀ y ∈ t, 0 ≤ y ∧ y ≤ 255 := fun y hy => ht2 y (by simp [hy])
              by_cases hd : 57 < n ∨ d < 1 ∨ 200 < d ∨ (out.length : Int) < d
              · rw [lo_bad hb hn hd] at h; cases h
              · rw [lo_more hb hn hd] at h
                exact ih t _ r (by omega) ht3 (hcp _ _ _ ho) h
end Go.Proofs.Ytgcpdifggjkdhab.Sq
