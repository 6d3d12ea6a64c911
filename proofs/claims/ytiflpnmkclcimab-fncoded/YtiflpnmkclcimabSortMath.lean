/- A stable order by swaps: what a rotation, an insertion and a merge in place do to a row that a function gives. -/
import Derived.Test.YtiflpnmkclcimabCodeMath
namespace Go.Proofs.Ytiflpnmkclcimab.Srt
set_option linter.unusedVariables false

def upd (f : Nat → Nat) (i v : Nat) : Nat → Nat := fun j => if j = i then v else f j
def Sorted (L : Nat → Nat) (a b : Nat) (f : Nat → Nat) : Prop := ∀ i j, a ≤ i → i < j → j < b → Huff.ahead L (f i) (f j)
/-- within [a, b) the same ones in another order, elsewhere as it was -/
def Seg (a b : Nat) (f f' : Nat → Nat) : Prop :=
  ∃ s : Nat → Nat, (∃ t : Nat → Nat, (∀ x, t (s x) = x) ∧ ∀ x, s (t x) = x) ∧ (∀ k, (k < a ∨ b ≤ k) → s k = k) ∧ (∀ k, a ≤ k → k < b → a ≤ s k ∧ s k < b) ∧ ∀ k, f' k = f (s k)
theorem Seg.refl (a b : Nat) (f : Nat → Nat) : Seg a b f f := ⟨id, ⟨id, fun _ => rfl, fun _ => rfl⟩, fun _ _ => rfl, fun k h1 h2 => ⟨h1, h2⟩, fun _ => rfl⟩
theorem Seg.trans {a b : Nat} {f f' f'' : Nat → Nat} (h : Seg a b f f') (k : Seg a b f' f'') : Seg a b f f'' := by
  obtain ⟨s, ⟨s', i1, i2⟩, h2, h3, h4⟩ := h
  obtain ⟨t, ⟨t', j1, j2⟩, k2, k3, k4⟩ := k
  refine ⟨fun x => s (t x), ⟨fun x => t' (s' x), fun x => ?_, fun x => ?_⟩, fun x hx => ?_, fun x hx hx2 => ?_, fun x => ?_⟩
  · show t' (s' (s (t x))) = x
    rw [i1, j1]
  · show s (t (t' (s' x))) = x
    rw [j2, i2]
  · show s (t x) = x
    rw [k2 x hx, h2 x hx]
  · have := k3 x hx hx2
    exact h3 _ this.1 this.2
  · rw [k4, h4]
theorem Seg.onto {n : Nat} {f : Nat → Nat} (h : Seg 0 n (fun k => k) f) {j : Nat} (hj : j < n) : ∃ q, q < n ∧ f q = j := by
  obtain ⟨s, ⟨t, h1, h1'⟩, h2, h3, h4⟩ := h
  refine ⟨t j, ?_, by rw [h4]; exact h1' j⟩
  rcases Nat.lt_or_ge (t j) n with h | h
  · exact h
  · have := h2 (t j) (Or.inr h)
    rw [h1'] at this
    omega
theorem Seg.inj {n : Nat} {f : Nat → Nat} (h : Seg 0 n (fun k => k) f) {x y : Nat} (e : f x = f y) : x = y := by
  obtain ⟨s, ⟨t, h1, h1'⟩, h2, h3, h4⟩ := h
  rw [h4, h4] at e
  have := congrArg t e
  simpa only [h1] using this
theorem Seg.mono {a b c d : Nat} {f f' : Nat → Nat} (h : Seg a b f f') (hc : c ≤ a) (hd : b ≤ d) : Seg c d f f' := by
  obtain ⟨s, h1, h2, h3, h4⟩ := h
  refine ⟨s, h1, fun k hk => h2 k (by omega), fun k hk1 hk2 => ?_, h4⟩
  by_cases h : k < a ∨ b ≤ k
  · rw [h2 k h]; exact ⟨hk1, hk2⟩
  · have := h3 k (by omega) (by omega)
    omega
theorem Seg.out {a b : Nat} {f f' : Nat → Nat} (h : Seg a b f f') {k : Nat} (hk : k < a ∨ b ≤ k) : f' k = f k := by
  obtain ⟨s, h1, h2, h3, h4⟩ := h
  rw [h4, h2 k hk]
theorem Seg.all {a b : Nat} {f f' : Nat → Nat} (h : Seg a b f f') {P : Nat → Prop} (hp : ∀ k, a ≤ k → k < b → P (f k)) : ∀ k, a ≤ k → k < b → P (f' k) := fun k h1 h2 => by
  obtain ⟨s, g1, g2, g3, g4⟩ := h
  rw [g4]
  exact hp _ (g3 k h1 h2).1 (g3 k h1 h2).2

/-! ### swaps -/
def swapF (a b n : Nat) (f : Nat → Nat) : Nat → Nat := fun k => if a ≤ k ∧ k < a + n then f (k - a + b) else if b ≤ k ∧ k < b + n then f (k - b + a) else f k
theorem swapF_zero (a b : Nat) (f : Nat → Nat) : swapF a b 0 f = f := by
  funext k
  unfold swapF
  rw [if_neg (by omega), if_neg (by omega)]
theorem swapF_succ {a b n i : Nat} (f : Nat → Nat) (hab : a + n ≤ b) (hi : i < n) : upd (upd (swapF a b i f) (a + i) (swapF a b i f (b + i))) (b + i) (swapF a b i f (a + i)) = swapF a b (i + 1) f := by
  funext k
  have e1 : swapF a b i f (b + i) = f (b + i) := by unfold swapF; rw [if_neg (by omega), if_neg (by omega)]
  have e2 : swapF a b i f (a + i) = f (a + i) := by unfold swapF; rw [if_neg (by omega), if_neg (by omega)]
  rw [e1, e2]
  unfold upd
  by_cases h1 : k = b + i
  · rw [if_pos h1]
    unfold swapF
    rw [if_neg (by omega), if_pos (by omega)]
    congr 1
    omega
  · rw [if_neg h1]
    by_cases h2 : k = a + i
    · rw [if_pos h2]
      unfold swapF
      rw [if_pos (by omega)]
      congr 1
      omega
    · rw [if_neg h2]
      unfold swapF
      by_cases h3 : a ≤ k ∧ k < a + i
      · rw [if_pos h3, if_pos (show a ≤ k ∧ k < a + (i + 1) by omega)]
      · rw [if_neg h3, if_neg (show ¬ (a ≤ k ∧ k < a + (i + 1)) by omega)]
        by_cases h4 : b ≤ k ∧ k < b + i
        · rw [if_pos h4, if_pos (show b ≤ k ∧ k < b + (i + 1) by omega)]
        · rw [if_neg h4, if_neg (show ¬ (b ≤ k ∧ k < b + (i + 1)) by omega)]

/-! ### rotations -/
def rotF (a m b : Nat) (f : Nat → Nat) : Nat → Nat := fun k => if a ≤ k ∧ k < b then (if k < a + (b - m) then f (k + (m - a)) else f (k - (b - m))) else f k
theorem rot_out {a m b : Nat} (f : Nat → Nat) {k : Nat} (h : k < a ∨ b ≤ k) : rotF a m b f k = f k := by unfold rotF; rw [if_neg (by omega)]
theorem rot_lo {a m b : Nat} (f : Nat → Nat) {k : Nat} (h1 : a ≤ k) (h2 : k < a + (b - m)) (hm : m ≤ b) (ha : a ≤ m) : rotF a m b f k = f (k + (m - a)) := by unfold rotF; rw [if_pos (by omega), if_pos h2]
theorem rot_hi {a m b : Nat} (f : Nat → Nat) {k : Nat} (h1 : a + (b - m) ≤ k) (h2 : k < b) : rotF a m b f k = f (k - (b - m)) := by unfold rotF; rw [if_pos (by omega), if_neg (by omega)]
theorem rot_seg {a m b : Nat} (f : Nat → Nat) (ha : a ≤ m) (hm : m ≤ b) : Seg a b f (rotF a m b f) := by
  refine ⟨fun k => if a ≤ k ∧ k < b then (if k < a + (b - m) then k + (m - a) else k - (b - m)) else k, ⟨fun k => if a ≤ k ∧ k < b then (if k < m then k + (b - m) else k - (m - a)) else k, fun x => ?_, fun x => ?_⟩, fun k hk => ?_, fun k h1 h2 => ?_, fun k => ?_⟩
  · simp only
    by_cases h : a ≤ x ∧ x < b
    · rw [if_pos h]
      by_cases h2 : x < a + (b - m)
      · rw [if_pos h2, if_pos (show a ≤ x + (m - a) ∧ x + (m - a) < b by omega), if_neg (by omega)]; omega
      · rw [if_neg h2, if_pos (show a ≤ x - (b - m) ∧ x - (b - m) < b by omega), if_pos (by omega)]; omega
    · rw [if_neg h, if_neg h]
  · simp only
    by_cases h : a ≤ x ∧ x < b
    · rw [if_pos h]
      by_cases h2 : x < m
      · rw [if_pos h2, if_pos (show a ≤ x + (b - m) ∧ x + (b - m) < b by omega), if_neg (by omega)]; omega
      · rw [if_neg h2, if_pos (show a ≤ x - (m - a) ∧ x - (m - a) < b by omega), if_pos (by omega)]; omega
    · rw [if_neg h, if_neg h]
  · simp only
    rw [if_neg (by omega)]
  · simp only [if_pos (And.intro h1 h2)]
    split <;> omega
  · unfold rotF
    by_cases h : a ≤ k ∧ k < b
    · rw [if_pos h]
      simp only [if_pos h]
      split <;> rfl
    · rw [if_neg h]
      simp only [if_neg h]
theorem rot_left {i j m : Nat} (f : Nat → Nat) (h : j < i) (hi : i ≤ m) : rotF (m - i) m (m + j) f = rotF (m - (i - j)) m (m + j) (swapF (m - i) m j f) := by
  funext k
  by_cases h1 : k < m - i ∨ m + j ≤ k
  · rw [rot_out f h1, rot_out _ (by omega)]
    unfold swapF
    rw [if_neg (by omega), if_neg (by omega)]
  · by_cases h2 : k < m - i + j
    · rw [rot_lo f (by omega) (by omega) (by omega) (by omega), rot_out _ (by omega)]
      unfold swapF
      rw [if_pos (by omega)]
      congr 1
      omega
    · rw [rot_hi f (by omega) (by omega)]
      by_cases h3 : k < m - (i - j) + j
      · rw [rot_lo _ (by omega) (by omega) (by omega) (by omega)]
        unfold swapF
        rw [if_neg (by omega), if_pos (by omega)]
        congr 1
        omega
      · rw [rot_hi _ (by omega) (by omega)]
        unfold swapF
        rw [if_neg (by omega), if_neg (by omega)]
theorem rot_right {i j m : Nat} (f : Nat → Nat) (h : i < j) (hi : i ≤ m) : rotF (m - i) m (m + j) f = rotF (m - i) m (m + (j - i)) (swapF (m - i) (m + j - i) i f) := by
  funext k
  by_cases h1 : k < m - i ∨ m + j ≤ k
  · rw [rot_out f h1, rot_out _ (by omega)]
    unfold swapF
    rw [if_neg (by omega), if_neg (by omega)]
  · by_cases h2 : m + (j - i) ≤ k
    · rw [rot_hi f (by omega) (by omega), rot_out _ (by omega)]
      unfold swapF
      rw [if_neg (by omega), if_pos (by omega)]
      congr 1
      omega
    · rw [rot_lo f (by omega) (by omega) (by omega) (by omega)]
      by_cases h3 : k < m - i + (j - i)
      · rw [rot_lo _ (by omega) (by omega) (by omega) (by omega)]
        unfold swapF
        rw [if_neg (by omega), if_neg (by omega)]
      · rw [rot_hi _ (by omega) (by omega)]
        unfold swapF
        rw [if_pos (by omega)]
        congr 1
        omega
theorem rot_end {i m : Nat} (f : Nat → Nat) (hi : i ≤ m) : rotF (m - i) m (m + i) f = swapF (m - i) m i f := by
  funext k
  by_cases h1 : k < m - i ∨ m + i ≤ k
  · rw [rot_out f h1]
    unfold swapF
    rw [if_neg (by omega), if_neg (by omega)]
  · by_cases h2 : k < m
    · rw [rot_lo f (by omega) (by omega) (by omega) (by omega)]
      unfold swapF
      rw [if_pos (by omega)]
      congr 1
      omega
    · rw [rot_hi f (by omega) (by omega)]
      unfold swapF
      rw [if_neg (by omega), if_pos (by omega)]
      congr 1
      omega
theorem rot_same {a b : Nat} (f : Nat → Nat) : rotF a a b f = f := by
  funext k
  unfold rotF
  by_cases h : a ≤ k ∧ k < b
  · rw [if_pos h, if_pos (by omega)]; congr 1; omega
  · rw [if_neg h]
theorem rot_same2 {a b : Nat} (f : Nat → Nat) : rotF a b b f = f := by
  funext k
  unfold rotF
  by_cases h : a ≤ k ∧ k < b
  · rw [if_pos h, if_neg (by omega)]; congr 1; omega
  · rw [if_neg h]
/-- one swap towards the head -/
theorem rot_ins {i j : Nat} (g : Nat → Nat) (h1 : 1 ≤ j) (hj : j ≤ i) : upd (upd (rotF j i (i + 1) g) j (rotF j i (i + 1) g (j - 1))) (j - 1) (rotF j i (i + 1) g j) = rotF (j - 1) i (i + 1) g := by
  have e1 : rotF j i (i + 1) g (j - 1) = g (j - 1) := rot_out g (by omega)
  have e2 : rotF j i (i + 1) g j = g i := by rw [rot_lo g (by omega) (by omega) (by omega) hj]; congr 1; omega
  rw [e1, e2]
  funext k
  unfold upd
  by_cases h2 : k = j - 1
  · rw [if_pos h2, rot_lo g (by omega) (by omega) (by omega) (by omega)]
    congr 1
    omega
  · rw [if_neg h2]
    by_cases h3 : k = j
    · rw [if_pos h3, rot_hi g (by omega) (by omega)]
      congr 1
      omega
    · rw [if_neg h3]
      by_cases h4 : k < j ∨ i + 1 ≤ k
      · rw [rot_out g h4, rot_out g (by omega)]
      · rw [rot_hi g (by omega) (by omega), rot_hi g (by omega) (by omega)]
/-- one swap towards the end -/
theorem rot_fwd {a k : Nat} (f : Nat → Nat) (h : a ≤ k) : upd (upd (rotF a (a + 1) (k + 1) f) k (rotF a (a + 1) (k + 1) f (k + 1))) (k + 1) (rotF a (a + 1) (k + 1) f k) = rotF a (a + 1) (k + 2) f := by
  have e1 : rotF a (a + 1) (k + 1) f (k + 1) = f (k + 1) := rot_out f (by omega)
  have e2 : rotF a (a + 1) (k + 1) f k = f a := by rw [rot_hi f (by omega) (by omega)]; congr 1; omega
  rw [e1, e2]
  funext j
  unfold upd
  by_cases h2 : j = k + 1
  · rw [if_pos h2, rot_hi f (by omega) (by omega)]
    congr 1
    omega
  · rw [if_neg h2]
    by_cases h3 : j = k
    · rw [if_pos h3, rot_lo f (by omega) (by omega) (by omega) (by omega)]
      congr 1
      omega
    · rw [if_neg h3]
      by_cases h4 : j < a ∨ k + 1 ≤ j
      · rw [rot_out f h4, rot_out f (by omega)]
      · rw [rot_lo f (by omega) (by omega) (by omega) (by omega), rot_lo f (by omega) (by omega) (by omega) (by omega)]

/-! ### insertion -/
theorem ins_done {L : Nat → Nat} {a i j : Nat} {g : Nat → Nat} (hs : Sorted L a i g) (hidx : ∀ p, a ≤ p → p < i → g p < g i) (haj : a ≤ j) (hji : j ≤ i)
    (h1 : j < i → L (g i) < L (g j)) (h2 : a < j → ¬ L (g i) < L (g (j - 1))) : Sorted L a (i + 1) (rotF j i (i + 1) g) := by
  have hup : ∀ k, j ≤ k → k < i → Huff.ahead L (g i) (g k) := fun k hk hki => by
    have h := h1 (by omega)
    rcases Nat.lt_or_ge j k with h3 | h3
    · exact Huff.ahead_trans (Or.inl h) (hs j k haj h3 hki)
    · obtain rfl : k = j := by omega
      exact Or.inl h
  have hdn : ∀ k, a ≤ k → k < j → Huff.ahead L (g k) (g i) := fun k hk hkj => by
    have h := h2 (by omega)
    have h4 := hidx (j - 1) (by omega) (by omega)
    have h5 : Huff.ahead L (g (j - 1)) (g i) := by unfold Huff.ahead; omega
    rcases Nat.lt_or_ge k (j - 1) with h3 | h3
    · exact Huff.ahead_trans (hs k (j - 1) hk h3 (by omega)) h5
    · obtain rfl : k = j - 1 := by omega
      exact h5
  have ej : rotF j i (i + 1) g j = g i := by rw [rot_lo g (by omega) (by omega) (by omega) hji]; congr 1; omega
  have elo : ∀ k, k < j → rotF j i (i + 1) g k = g k := fun k hk => rot_out g (by omega)
  have ehi : ∀ k, j < k → k ≤ i → rotF j i (i + 1) g k = g (k - 1) := fun k hk hk2 => by rw [rot_hi g (by omega) (by omega)]; congr 1; omega
  intro p q hp hpq hq
  rcases Nat.lt_trichotomy p j with h | h | h
  · rw [elo p h]
    rcases Nat.lt_trichotomy q j with k | k | k
    · rw [elo q k]; exact hs p q hp hpq (by omega)
    · subst k; rw [ej]; exact hdn p hp h
    · rw [ehi q k (by omega)]; exact hs p (q - 1) hp (by omega) (by omega)
  · subst h
    rw [ej, ehi q hpq (by omega)]
    exact hup (q - 1) (by omega) (by omega)
  · rw [ehi p h (by omega), ehi q (by omega) (by omega)]
    exact hs (p - 1) (q - 1) (by omega) (by omega) (by omega)
theorem ins_seg {a i j : Nat} {f g : Nat → Nat} (h : Seg a i f g) (hj : a ≤ j) (hji : j ≤ i) : Seg a (i + 1) f (rotF j i (i + 1) g) :=
  (h.mono (Nat.le_refl _) (by omega)).trans ((rot_seg g hji (by omega)).mono hj (Nat.le_refl _))

/-! ### merging -/
theorem sm_core {L : Nat → Nat} {a m b mid start e : Nat} {f : Nat → Nat} (hs1 : Sorted L a m f) (hs2 : Sorted L m b f) (hx : ∀ p q, a ≤ p → p < m → m ≤ q → q < b → f p < f q)
    (ha : a ≤ start) (h1 : start ≤ m) (h2 : start ≤ mid) (h3 : m ≤ e) (h4 : e ≤ b) (h5 : mid ≤ e) (he : e + start = mid + m)
    (c1 : a < start → e < b → Huff.ahead L (f (start - 1)) (f e)) (c2 : start < m → m < e → Huff.ahead L (f (e - 1)) (f start)) :
    Sorted L a start (rotF start m e f) ∧ Sorted L start mid (rotF start m e f) ∧ Sorted L mid e (rotF start m e f) ∧ Sorted L e b (rotF start m e f) ∧
    (∀ p q, a ≤ p → p < start → start ≤ q → q < mid → rotF start m e f p < rotF start m e f q) ∧ (∀ p q, mid ≤ p → p < e → e ≤ q → q < b → rotF start m e f p < rotF start m e f q) ∧
    (∀ p q, a ≤ p → p < mid → mid ≤ q → q < b → Huff.ahead L (rotF start m e f p) (rotF start m e f q)) := by
  have e0 : ∀ k, k < start → rotF start m e f k = f k := fun k hk => rot_out f (by omega)
  have e3 : ∀ k, e ≤ k → rotF start m e f k = f k := fun k hk => rot_out f (by omega)
  have e1 : ∀ k, start ≤ k → k < mid → rotF start m e f k = f (k + (m - start)) := fun k hk hk2 => rot_lo f hk (by omega) h3 h1
  have e2 : ∀ k, mid ≤ k → k < e → rotF start m e f k = f (k - (e - m)) := fun k hk hk2 => rot_hi f (by omega) hk2
  have d1 : ∀ p q, a ≤ p → p < start → e ≤ q → q < b → Huff.ahead L (f p) (f q) := fun p q p1 p2 q1 q2 => by
    have c := c1 (by omega) (by omega)
    have h6 : Huff.ahead L (f p) (f e) := by
      rcases Nat.lt_or_ge p (start - 1) with h | h
      · exact Huff.ahead_trans (hs1 p (start - 1) p1 h (by omega)) c
      · obtain rfl : p = start - 1 := by omega
        exact c
    rcases Nat.lt_or_ge e q with h | h
    · exact Huff.ahead_trans h6 (hs2 e q (by omega) h q2)
    · obtain rfl : q = e := by omega
      exact h6
  have d2 : ∀ p q, m ≤ p → p < e → start ≤ q → q < m → Huff.ahead L (f p) (f q) := fun p q p1 p2 q1 q2 => by
    have c := c2 (by omega) (by omega)
    have h6 : Huff.ahead L (f p) (f start) := by
      rcases Nat.lt_or_ge p (e - 1) with h | h
      · exact Huff.ahead_trans (hs2 p (e - 1) p1 h (by omega)) c
      · obtain rfl : p = e - 1 := by omega
        exact c
    rcases Nat.lt_or_ge start q with h | h
    · exact Huff.ahead_trans h6 (hs1 start q ha h q2)
    · obtain rfl : q = start := by omega
      exact h6
  refine ⟨fun i j hi hij hj => ?_, fun i j hi hij hj => ?_, fun i j hi hij hj => ?_, fun i j hi hij hj => ?_, fun p q p1 p2 q1 q2 => ?_, fun p q p1 p2 q1 q2 => ?_, fun p q p1 p2 q1 q2 => ?_⟩
  · rw [e0 i (by omega), e0 j hj]; exact hs1 i j hi hij (by omega)
  · rw [e1 i hi (by omega), e1 j (by omega) hj]; exact hs2 _ _ (by omega) (by omega) (by omega)
  · rw [e2 i hi (by omega), e2 j (by omega) hj]; exact hs1 _ _ (by omega) (by omega) (by omega)
  · rw [e3 i hi, e3 j (by omega)]; exact hs2 i j (by omega) hij hj
  · rw [e0 p p2, e1 q q1 q2]; exact hx _ _ p1 (by omega) (by omega) (by omega)
  · rw [e2 p p1 p2, e3 q q1]; exact hx _ _ (by omega) (by omega) (by omega) q2
  · by_cases hp : p < start <;> by_cases hq : q < e
    · rw [e0 p hp, e2 q q1 hq]; exact hs1 _ _ p1 (by omega) (by omega)
    · rw [e0 p hp, e3 q (by omega)]; exact d1 _ _ p1 hp (by omega) q2
    · rw [e1 p (by omega) p2, e2 q q1 hq]; exact d2 _ _ (by omega) (by omega) (by omega) (by omega)
    · rw [e1 p (by omega) p2, e3 q (by omega)]; exact hs2 _ _ (by omega) (by omega) q2
theorem sm_join {L : Nat → Nat} {a b mid : Nat} {f f2 f3 : Nat → Nat} (h1 : a ≤ mid) (h2 : mid ≤ b) (hx : ∀ p q, a ≤ p → p < mid → mid ≤ q → q < b → Huff.ahead L (f p) (f q))
    (hg : Seg a mid f f2) (hs : Sorted L a mid f2) (hg2 : Seg mid b f2 f3) (hs2 : Sorted L mid b f3) : Sorted L a b f3 := by
  intro i j hi hij hj
  by_cases h : j < mid
  · rw [hg2.out (Or.inl (by omega)), hg2.out (Or.inl h)]
    exact hs i j hi hij h
  · by_cases k : i < mid
    · rw [hg2.out (Or.inl k)]
      refine hg2.all (P := fun y => Huff.ahead L (f2 i) y) (fun q q1 q2 => ?_) j (by omega) hj
      rw [hg.out (Or.inr q1)]
      exact hg.all (P := fun x => Huff.ahead L x (f q)) (fun p p1 p2 => hx p q p1 p2 q1 q2) i hi k
    · exact hs2 i j (by omega) hij hj
/-- one on the left: it goes ahead of those that are not ahead of it -/
theorem sm_one_left {L : Nat → Nat} {a b i : Nat} {f : Nat → Nat} (hs2 : Sorted L (a + 1) b f) (h1 : a + 1 ≤ i) (h2 : i ≤ b)
    (c1 : a + 1 < i → Huff.ahead L (f (i - 1)) (f a)) (c2 : i < b → Huff.ahead L (f a) (f i)) : Sorted L a b (rotF a (a + 1) i f) := by
  have e0 : ∀ k, a ≤ k → k < i - 1 → rotF a (a + 1) i f k = f (k + 1) := fun k hk hk2 => by rw [rot_lo f hk (by omega) (by omega) (by omega)]; congr 1; omega
  have e1 : rotF a (a + 1) i f (i - 1) = f a := by rw [rot_hi f (by omega) (by omega)]; congr 1; omega
  have e2 : ∀ k, i ≤ k → rotF a (a + 1) i f k = f k := fun k hk => rot_out f (by omega)
  have d1 : ∀ p, a + 1 ≤ p → p < i → Huff.ahead L (f p) (f a) := fun p p1 p2 => by
    have c := c1 (by omega)
    rcases Nat.lt_or_ge p (i - 1) with h | h
    · exact Huff.ahead_trans (hs2 p (i - 1) p1 h (by omega)) c
    · obtain rfl : p = i - 1 := by omega
      exact c
  have d2 : ∀ q, i ≤ q → q < b → Huff.ahead L (f a) (f q) := fun q q1 q2 => by
    have c := c2 (by omega)
    rcases Nat.lt_or_ge i q with h | h
    · exact Huff.ahead_trans c (hs2 i q h1 h q2)
    · obtain rfl : q = i := by omega
      exact c
  intro p q hp hpq hq
  rcases Nat.lt_trichotomy p (i - 1) with h | h | h
  · rw [e0 p hp h]
    rcases Nat.lt_trichotomy q (i - 1) with k | k | k
    · rw [e0 q (by omega) k]; exact hs2 _ _ (by omega) (by omega) (by omega)
    · rw [k, e1]; exact d1 _ (by omega) (by omega)
    · rw [e2 q (by omega)]; exact hs2 _ _ (by omega) (by omega) hq
  · rw [h, e1, e2 q (by omega)]; exact d2 q (by omega) hq
  · rw [e2 p (by omega), e2 q (by omega)]; exact hs2 _ _ (by omega) hpq hq
/-- one on the right -/
theorem sm_one_right {L : Nat → Nat} {a m i : Nat} {f : Nat → Nat} (hs1 : Sorted L a m f) (h1 : a ≤ i) (h2 : i ≤ m)
    (c1 : a < i → Huff.ahead L (f (i - 1)) (f m)) (c2 : i < m → Huff.ahead L (f m) (f i)) : Sorted L a (m + 1) (rotF i m (m + 1) f) := by
  have e0 : ∀ k, k < i → rotF i m (m + 1) f k = f k := fun k hk => rot_out f (by omega)
  have e1 : rotF i m (m + 1) f i = f m := by rw [rot_lo f (by omega) (by omega) (by omega) h2]; congr 1; omega
  have e2 : ∀ k, i < k → k ≤ m → rotF i m (m + 1) f k = f (k - 1) := fun k hk hk2 => by rw [rot_hi f (by omega) (by omega)]; congr 1; omega
  have d1 : ∀ p, a ≤ p → p < i → Huff.ahead L (f p) (f m) := fun p p1 p2 => by
    have c := c1 (by omega)
    rcases Nat.lt_or_ge p (i - 1) with h | h
    · exact Huff.ahead_trans (hs1 p (i - 1) p1 h (by omega)) c
    · obtain rfl : p = i - 1 := by omega
      exact c
  have d2 : ∀ q, i ≤ q → q < m → Huff.ahead L (f m) (f q) := fun q q1 q2 => by
    have c := c2 (by omega)
    rcases Nat.lt_or_ge i q with h | h
    · exact Huff.ahead_trans c (hs1 i q h1 h q2)
    · obtain rfl : q = i := by omega
      exact c
  intro p q hp hpq hq
  rcases Nat.lt_trichotomy p i with h | h | h
  · rw [e0 p h]
    rcases Nat.lt_trichotomy q i with k | k | k
    · rw [e0 q k]; exact hs1 p q hp hpq (by omega)
    · rw [k, e1]; exact d1 p hp h
    · rw [e2 q k (by omega)]; exact hs1 _ _ hp (by omega) (by omega)
  · rw [h, e1, e2 q (by omega) (by omega)]; exact d2 _ (by omega) (by omega)
  · rw [e2 p h (by omega), e2 q (by omega) (by omega)]; exact hs1 _ _ (by omega) (by omega) (by omega)
end Go.Proofs.Ytiflpnmkclcimab.Srt
