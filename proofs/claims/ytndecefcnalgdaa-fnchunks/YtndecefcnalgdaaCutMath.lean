/- ON CUTTING: where a text is cut first, all its cuts, and what they have in common where two texts have one end. It speaks of no program. -/
import Derived.Test.YtndecefcnalgdaaRollMath
namespace Go.Proofs.Ytndecefcnalgdaa
open Go.RowKit

/-- may a chunk end behind n of these bytes? -/
def hit (bs : List Int) (W : Nat) (P : Int) (n : Nat) : Prop := rollL ((bs.drop (n - W)).take W) % P = 0
def nextGo (bs : List Int) (W : Nat) (P : Int) (M : Nat) : Nat → Nat → Nat
  | 0, _ => min M bs.length
  | f + 1, n => if n < M ∧ n ≤ bs.length then (if rollL ((bs.drop (n - W)).take W) % P = 0 then n else nextGo bs W P M f (n + 1)) else min M bs.length
/-- where these bytes are cut first -/
def nextL (W : Nat) (P : Int) (L M : Nat) (bs : List Int) : Nat := nextGo bs W P M (M - L) L

theorem nextGo_hit {bs : List Int} {W : Nat} {P : Int} {M n : Nat} (hM : n < M) (hl : n ≤ bs.length) (hh : hit bs W P n) : ∀ f n0, n0 ≤ n → n - n0 < f → (∀ j, n0 ≤ j → j < n → ¬ hit bs W P j) → nextGo bs W P M f n0 = n := by
  intro f
  induction f with
  | zero => intro n0 _ h; omega
  | succ f ih =>
    intro n0 h0 hf hj
    rw [nextGo, if_pos ⟨by omega, by omega⟩]
    by_cases e : n0 = n
    · subst e
      exact if_pos hh
    · have h1 := hj n0 (Nat.le_refl _) (by omega)
      unfold hit at h1
      rw [if_neg h1]
      exact ih (n0 + 1) (by omega) (by omega) (fun j a b => hj j (by omega) b)
theorem nextGo_none {bs : List Int} {W : Nat} {P : Int} {M : Nat} : ∀ f n0, (∀ j, n0 ≤ j → j < M → j ≤ bs.length → ¬ hit bs W P j) → nextGo bs W P M f n0 = min M bs.length := by
  intro f
  induction f with
  | zero => intro n0 _; rfl
  | succ f ih =>
    intro n0 hj
    rw [nextGo]
    by_cases h : n0 < M ∧ n0 ≤ bs.length
    · rw [if_pos h]
      have h1 := hj n0 (Nat.le_refl _) h.1 h.2
      unfold hit at h1
      rw [if_neg h1]
      exact ih (n0 + 1) (fun j a b c => hj j (by omega) b c)
    · rw [if_neg h]
theorem nextL_hit {bs : List Int} {W : Nat} {P : Int} {L M n : Nat} (hL : L ≤ n) (hM : n < M) (hl : n ≤ bs.length) (hh : hit bs W P n) (hj : ∀ j, L ≤ j → j < n → ¬ hit bs W P j) : nextL W P L M bs = n :=
  nextGo_hit hM hl hh _ _ hL (by omega) hj
theorem nextL_none {bs : List Int} {W : Nat} {P : Int} {L M : Nat} (hj : ∀ j, L ≤ j → j < M → j ≤ bs.length → ¬ hit bs W P j) : nextL W P L M bs = min M bs.length :=
  nextGo_none _ _ hj
theorem least {p : Nat → Prop} (hp : ∀ j, p j ∨ ¬ p j) (a : Nat) : ∀ k, (∃ n, a ≤ n ∧ n < a + k ∧ p n ∧ ∀ j, a ≤ j → j < n → ¬ p j) ∨ (∀ j, a ≤ j → j < a + k → ¬ p j) := by
  intro k
  induction k with
  | zero => exact .inr fun j _ _ => by omega
  | succ k ih =>
    rcases ih with ⟨n, h1, h2, h3, h4⟩ | h
    · exact .inl ⟨n, h1, by omega, h3, h4⟩
    · rcases hp (a + k) with h1 | h1
      · exact .inl ⟨a + k, by omega, by omega, h1, h⟩
      · refine .inr fun j ha hb => ?_
        by_cases e : j = a + k
        · rw [e]; exact h1
        · exact h j ha (by omega)
theorem nextL_cases (W : Nat) (P : Int) (L M : Nat) (bs : List Int) :
    (∃ n, nextL W P L M bs = n ∧ L ≤ n ∧ n < M ∧ n ≤ bs.length ∧ hit bs W P n ∧ ∀ j, L ≤ j → j < n → ¬ hit bs W P j) ∨ (nextL W P L M bs = min M bs.length ∧ ∀ j, L ≤ j → j < M → j ≤ bs.length → ¬ hit bs W P j) := by
  have hp : ∀ j, (j < M ∧ j ≤ bs.length ∧ hit bs W P j) ∨ ¬ (j < M ∧ j ≤ bs.length ∧ hit bs W P j) := fun j => Classical.em _
  rcases least hp L M with ⟨n, h1, _, ⟨h2, h3, h4⟩, h5⟩ | h
  · have hj : ∀ j, L ≤ j → j < n → ¬ hit bs W P j := fun j a b c => h5 j a b ⟨by omega, by omega, c⟩
    exact .inl ⟨n, nextL_hit h1 h2 h3 h4 hj, h1, h2, h3, h4, hj⟩
  · have hj : ∀ j, L ≤ j → j < M → j ≤ bs.length → ¬ hit bs W P j := fun j a b c d => h j a (by omega) ⟨b, c, d⟩
    exact .inr ⟨nextL_none hj, hj⟩
theorem nextL_le (W : Nat) (P : Int) (L M : Nat) (bs : List Int) : nextL W P L M bs ≤ bs.length ∧ nextL W P L M bs ≤ M := by
  rcases nextL_cases W P L M bs with ⟨n, h, _, h2, h3, _⟩ | ⟨h, _⟩ <;> omega
theorem nextL_pos {W : Nat} {P : Int} {L M : Nat} {bs : List Int} (h1 : 1 ≤ L) (h2 : L ≤ M) (hb : 0 < bs.length) : 1 ≤ nextL W P L M bs := by
  rcases nextL_cases W P L M bs with ⟨n, h, h3, _⟩ | ⟨h, _⟩ <;> omega
/-- a chunk that is not the last one -/
theorem nextL_inner {W : Nat} {P : Int} {L M : Nat} {bs : List Int} (h2 : L ≤ M) (hb : nextL W P L M bs < bs.length) : L ≤ nextL W P L M bs := by
  rcases nextL_cases W P L M bs with ⟨n, h, h3, _⟩ | ⟨h, _⟩ <;> omega
theorem nextL_short {W : Nat} {P : Int} {L M : Nat} {bs : List Int} (hb : nextL W P L M bs < bs.length) (hm : nextL W P L M bs < M) : hit bs W P (nextL W P L M bs) := by
  rcases nextL_cases W P L M bs with ⟨n, h, _, _, _, h4, _⟩ | ⟨h, _⟩
  · rw [h]; exact h4
  · omega
theorem hit_append {bs h : List Int} {W : Nat} {P : Int} {n : Nat} (hW : W ≤ n) (hn : n ≤ bs.length) : hit (bs ++ h) W P n ↔ hit bs W P n := by
  unfold hit
  rw [List.drop_append_of_le_length (by omega), List.take_append_of_le_length (by rw [List.length_drop]; omega)]
/-- what comes behind changes nothing, where the cut is not at the end -/
theorem nextL_append {W : Nat} {P : Int} {L M : Nat} {bs : List Int} (h : List Int) (hW : W ≤ L) (hb : nextL W P L M bs < bs.length) : nextL W P L M (bs ++ h) = nextL W P L M bs := by
  rcases nextL_cases W P L M bs with ⟨n, e, h1, h2, h3, h4, h5⟩ | ⟨e, h1⟩
  · rw [e]
    exact nextL_hit h1 h2 (by rw [List.length_append]; omega) ((hit_append (by omega) h3).2 h4) (fun j a b c => h5 j a b ((hit_append (by omega) (by omega)).1 c))
  · rw [e] at hb ⊢
    rw [nextL_none (fun j a b _ d => h1 j a b (by omega) ((hit_append (by omega) (by omega)).1 d)), List.length_append]
    omega

/-- all cuts from a place on -/
def cutsGo (nx : List Int → Nat) (bs : List Int) : Nat → Nat → List Nat
  | 0, _ => []
  | f + 1, a => if a < bs.length then (a + nx (bs.drop a)) :: cutsGo nx bs f (a + nx (bs.drop a)) else []
/-- what a way to find the first cut must meet -/
def Okn (nx : List Int → Nat) : Prop := ∀ t : List Int, 0 < t.length → (1 ≤ nx t ∧ nx t ≤ t.length)
def cutsAt (nx : List Int → Nat) (bs : List Int) (a : Nat) : List Nat := cutsGo nx bs (bs.length - a) a

theorem okn_next {W : Nat} {P : Int} {L M : Nat} (h1 : 1 ≤ L) (h2 : L ≤ M) : Okn (nextL W P L M) := fun _ ht => ⟨nextL_pos h1 h2 ht, (nextL_le _ _ _ _ _).1⟩
theorem nx_drop {nx : List Int → Nat} (h : Okn nx) {bs : List Int} {a : Nat} (ha : a < bs.length) : 1 ≤ nx (bs.drop a) ∧ a + nx (bs.drop a) ≤ bs.length := by
  have := h (bs.drop a) (by rw [List.length_drop]; omega)
  rw [List.length_drop] at this
  omega
theorem cutsGo_fuel {nx : List Int → Nat} (h : Okn nx) (bs : List Int) : ∀ f f' a, bs.length - a ≤ f → bs.length - a ≤ f' → cutsGo nx bs f a = cutsGo nx bs f' a := by
  intro f
  induction f with
  | zero =>
    intro f' a h1 _
    cases f' with
    | zero => rfl
    | succ g => rw [cutsGo, cutsGo, if_neg (by omega)]
  | succ f ih =>
    intro f' a h1 h2
    by_cases ha : a < bs.length
    · have hn := nx_drop h ha
      cases f' with
      | zero => omega
      | succ g =>
        rw [cutsGo, cutsGo, if_pos ha, if_pos ha]
        congr 1
        exact ih g _ (by omega) (by omega)
    · cases f' with
      | zero => rw [cutsGo, cutsGo, if_neg ha]
      | succ g => rw [cutsGo, cutsGo, if_neg ha, if_neg ha]
theorem cutsAt_end {nx : List Int → Nat} {bs : List Int} {a : Nat} (ha : ¬ a < bs.length) : cutsAt nx bs a = [] := by
  unfold cutsAt
  rw [show bs.length - a = 0 by omega]
  rfl
theorem cutsAt_step {nx : List Int → Nat} (h : Okn nx) {bs : List Int} {a : Nat} (ha : a < bs.length) : cutsAt nx bs a = (a + nx (bs.drop a)) :: cutsAt nx bs (a + nx (bs.drop a)) := by
  have hn := nx_drop h ha
  obtain ⟨g, hg⟩ : ∃ g, bs.length - a = g + 1 := ⟨bs.length - a - 1, by omega⟩
  unfold cutsAt
  rw [hg, cutsGo, if_pos ha]
  congr 1
  exact cutsGo_fuel h bs _ _ _ (by omega) (by omega)
/-- induction along the cuts -/
theorem cut_induct {nx : List Int → Nat} (h : Okn nx) (bs : List Int) {p : Nat → Prop} (h0 : ∀ a, ¬ a < bs.length → p a) (h1 : ∀ a, a < bs.length → p (a + nx (bs.drop a)) → p a) : ∀ a, p a := by
  suffices H : ∀ f a, bs.length - a ≤ f → p a from fun a => H _ a (Nat.le_refl _)
  intro f
  induction f with
  | zero => intro a ha; exact h0 a (by omega)
  | succ f ih =>
    intro a ha
    by_cases hl : a < bs.length
    · have hn := nx_drop h hl
      exact h1 a hl (ih _ (by omega))
    · exact h0 a hl
/-- each cut lies behind the one ahead of it and is found from there -/
theorem cuts_get {nx : List Int → Nat} (h : Okn nx) (bs : List Int) : ∀ a i, i < (cutsAt nx bs a).length → (a :: cutsAt nx bs a).getD i 0 < bs.length ∧ (cutsAt nx bs a).getD i 0 = (a :: cutsAt nx bs a).getD i 0 + nx (bs.drop ((a :: cutsAt nx bs a).getD i 0)) := by
  refine cut_induct h bs (fun a ha i hi => ?_) (fun a ha ih i hi => ?_)
  · rw [cutsAt_end ha] at hi; simp at hi
  · rw [cutsAt_step h ha] at hi ⊢
    cases i with
    | zero => exact ⟨ha, rfl⟩
    | succ i =>
      have := ih i (by simpa using hi)
      simpa using this
/-- the last cut is the end -/
theorem cuts_end {nx : List Int → Nat} (h : Okn nx) (bs : List Int) : ∀ a, a ≤ bs.length → (a :: cutsAt nx bs a).getD (cutsAt nx bs a).length 0 = bs.length := by
  refine cut_induct h bs (fun a ha hl => ?_) (fun a ha ih hl => ?_)
  · rw [cutsAt_end ha]; simp; omega
  · have hn := nx_drop h ha
    have := ih hn.2
    rw [cutsAt_step h ha]
    simpa using this
theorem cuts_nil {nx : List Int → Nat} (h : Okn nx) (bs : List Int) (a : Nat) : (cutsAt nx bs a).length = 0 ↔ bs.length ≤ a := by
  by_cases ha : a < bs.length
  · rw [cutsAt_step h ha]; simp; omega
  · rw [cutsAt_end ha]; simp; omega
theorem cuts_mem_gt {nx : List Int → Nat} (h : Okn nx) (bs : List Int) : ∀ a, ∀ c ∈ cutsAt nx bs a, a < c ∧ c ≤ bs.length := by
  refine cut_induct h bs (fun a ha c hc => ?_) (fun a ha ih c hc => ?_)
  · rw [cutsAt_end ha] at hc; cases hc
  · have hn := nx_drop h ha
    rw [cutsAt_step h ha] at hc
    rcases List.mem_cons.1 hc with rfl | hc
    · omega
    · have := ih c hc; omega
/-- from a cut on all goes as if one began there -/
theorem cuts_from {nx : List Int → Nat} (h : Okn nx) (bs : List Int) : ∀ a, ∀ c ∈ cutsAt nx bs a, ∀ i, c < i → (i ∈ cutsAt nx bs a ↔ i ∈ cutsAt nx bs c) := by
  refine cut_induct h bs (fun a ha c hc => ?_) (fun a ha ih c hc i hi => ?_)
  · rw [cutsAt_end ha] at hc; cases hc
  · rw [cutsAt_step h ha] at hc ⊢
    have hgt := cuts_mem_gt h bs (a + nx (bs.drop a))
    rcases List.mem_cons.1 hc with rfl | hc
    · rw [List.mem_cons]
      exact ⟨fun h => h.elim (fun e => absurd e (by omega)) id, .inr⟩
    · have := (hgt c hc).1
      rw [List.mem_cons, ← ih c hc i hi]
      exact ⟨fun h => h.elim (fun e => absurd e (by omega)) id, .inr⟩
/-- what lies ahead only shifts the cuts -/
theorem cuts_shift {nx : List Int → Nat} (h : Okn nx) (hd bs : List Int) : ∀ a, cutsAt nx (hd ++ bs) (hd.length + a) = (cutsAt nx bs a).map (hd.length + ·) := by
  refine cut_induct h bs (fun a ha => ?_) (fun a ha ih => ?_)
  · rw [cutsAt_end ha, cutsAt_end (by rw [List.length_append]; omega)]; rfl
  · have e : (hd ++ bs).drop (hd.length + a) = bs.drop a := by rw [List.drop_append]; simp
    rw [cutsAt_step h ha, cutsAt_step h (bs := hd ++ bs) (by rw [List.length_append]; omega), e, Nat.add_assoc, ih]
    rfl
/-- TWO TEXTS WITH ONE END, ONCE CUT AT ONE PLACE, ARE CUT ALIKE FROM THERE -/
theorem cuts_alike {nx : List Int → Nat} (h : Okn nx) (hd bs : List Int) (c i : Nat) (h1 : c ∈ cutsAt nx bs 0) (h2 : hd.length + c ∈ cutsAt nx (hd ++ bs) 0) (hi : c < i) : i ∈ cutsAt nx bs 0 ↔ hd.length + i ∈ cutsAt nx (hd ++ bs) 0 := by
  rw [cuts_from h bs 0 c h1 i hi, cuts_from h (hd ++ bs) 0 _ h2 (hd.length + i) (by omega), cuts_shift h hd bs c, List.mem_map]
  exact ⟨fun h => ⟨i, h, rfl⟩, fun ⟨j, hj, e⟩ => (show j = i by omega) ▸ hj⟩
/-- what comes behind changes no cut but the last -/
theorem cuts_behind {nx : List Int → Nat} (h : Okn nx) (bs tl : List Int) (happ : ∀ t : List Int, nx t < t.length → nx (t ++ tl) = nx t) : ∀ a i, i + 1 < (cutsAt nx bs a).length → i < (cutsAt nx (bs ++ tl) a).length ∧ (cutsAt nx (bs ++ tl) a).getD i 0 = (cutsAt nx bs a).getD i 0 := by
  refine cut_induct h bs (fun a ha i hi => ?_) (fun a ha ih i hi => ?_)
  · rw [cutsAt_end ha] at hi; simp at hi
  · have hn := nx_drop h ha
    have hne : a + nx (bs.drop a) < bs.length := by
      by_cases hx : a + nx (bs.drop a) < bs.length
      · exact hx
      · rw [cutsAt_step h ha, cutsAt_end hx] at hi; simp at hi
    have e : nx ((bs ++ tl).drop a) = nx (bs.drop a) := by
      rw [List.drop_append_of_le_length (by omega)]
      exact happ _ (by rw [List.length_drop]; omega)
    rw [cutsAt_step h ha] at hi ⊢
    rw [cutsAt_step h (bs := bs ++ tl) (by rw [List.length_append]; omega), e]
    cases i with
    | zero => simp
    | succ i =>
      have := ih i (by simpa using hi)
      simpa using this
/-- how far the k-th cut has come, at least and at most -/
theorem cuts_between {nx : List Int → Nat} (h : Okn nx) (bs : List Int) (L M : Nat) (hM : ∀ t, nx t ≤ M) (hL : ∀ t : List Int, nx t < t.length → L ≤ nx t) : ∀ k, k ≤ (cutsAt nx bs 0).length → (0 :: cutsAt nx bs 0).getD k 0 ≤ M * k ∧ (k < (cutsAt nx bs 0).length → L * k ≤ (0 :: cutsAt nx bs 0).getD k 0) := by
  intro k
  induction k with
  | zero => intro _; simp
  | succ k ih =>
    intro hk
    have h1 := ih (by omega)
    obtain ⟨h2, h3⟩ := cuts_get h bs 0 k (by omega)
    have e : (0 :: cutsAt nx bs 0).getD (k + 1) 0 = (cutsAt nx bs 0).getD k 0 := by simp
    rw [e, h3, Nat.mul_succ, Nat.mul_succ]
    have h4 := hM (bs.drop ((0 :: cutsAt nx bs 0).getD k 0))
    refine ⟨by omega, fun hk2 => ?_⟩
    have h5 := (cuts_get h bs 0 (k + 1) hk2).1
    rw [e, h3] at h5
    have h6 := hL (bs.drop ((0 :: cutsAt nx bs 0).getD k 0)) (by rw [List.length_drop]; omega)
    have := h1.2 (by omega)
    omega

end Go.Proofs.Ytndecefcnalgdaa
