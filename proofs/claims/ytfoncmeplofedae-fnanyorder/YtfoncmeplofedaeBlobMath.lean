/- STORES, over lists: what is put, got, dropped, missing. It speaks of no function of the program. -/
import Derived.Test.YtfoncmeplofedaeBlobs
import Derived.Test.YtfoncmeplofedaeClashes
namespace Go.Proofs.Ytfoncmeplofedae
/-- a store -/
def Sto (l : List Bl) : Prop := l.length ≤ 300 ∧ (∀ p ∈ l, p.2.size ≤ 2000 ∧ p.1 = digest p.2) ∧ l.Pairwise (fun p q => p.1 < q.1)
def okAt (l : List Bl) (i : Nat) : Bool := decide ((l.getD i bl0).2.size ≤ 2000) && (decide ((l.getD i bl0).1 = digest (l.getD i bl0).2) && (decide (i = 0) || decide ((l.getD (i - 1) bl0).1 < (l.getD i bl0).1)))
def storeB (l : List Bl) : Bool := decide (l.length ≤ 300) && (List.range l.length).all (okAt l)
theorem getD_at {l : List Bl} {i : Nat} (h : i < l.length) : l.getD i bl0 = l[i] := by simp [List.getD, h]
theorem okAt_iff {l : List Bl} {i : Nat} : okAt l i = true ↔ (l.getD i bl0).2.size ≤ 2000 ∧ (l.getD i bl0).1 = digest (l.getD i bl0).2 ∧ (i = 0 ∨ (l.getD (i - 1) bl0).1 < (l.getD i bl0).1) := by
  unfold okAt
  simp only [Bool.and_eq_true, Bool.or_eq_true, decide_eq_true_eq]
theorem rise_of {l : List Bl} (h : ∀ i, 0 < i → i < l.length → (l.getD (i - 1) bl0).1 < (l.getD i bl0).1) : l.Pairwise (fun p q => p.1 < q.1) := by
  refine List.pairwise_iff_getElem.2 fun i j hi hj hij => ?_
  obtain ⟨k, rfl⟩ : ∃ k, j = i + 1 + k := ⟨j - i - 1, by omega⟩
  induction k with
  | zero =>
    have := h (i + 1) (by omega) (by omega)
    rw [Nat.add_sub_cancel, getD_at hi, getD_at (by omega)] at this
    exact this
  | succ k ih =>
    have h1 := ih (by omega) (by omega)
    have h2 := h (i + 1 + (k + 1)) (by omega) hj
    rw [show i + 1 + (k + 1) - 1 = i + 1 + k by omega, getD_at (show i + 1 + k < l.length by omega), getD_at hj] at h2
    omega
theorem storeB_iff {l : List Bl} : storeB l = true ↔ Sto l := by
  unfold storeB Sto
  rw [Bool.and_eq_true, decide_eq_true_eq, List.all_eq_true]
  constructor
  · rintro ⟨h1, h2⟩
    have h3 : ∀ i, i < l.length → okAt l i = true := fun i hi => h2 i (List.mem_range.2 hi)
    refine ⟨h1, fun p hp => ?_, rise_of fun i h0 hi => ?_⟩
    · obtain ⟨i, hi, rfl⟩ := List.getElem_of_mem hp
      have := okAt_iff.1 (h3 i hi)
      rw [getD_at hi] at this
      exact ⟨this.1, this.2.1⟩
    · rcases (okAt_iff.1 (h3 i hi)).2.2 with g | g
      · omega
      · exact g
  · rintro ⟨h1, h2, h3⟩
    refine ⟨h1, fun i hi => ?_⟩
    have hi := List.mem_range.1 hi
    obtain ⟨g1, g2⟩ := h2 l[i] (List.getElem_mem hi)
    refine okAt_iff.2 ⟨by rw [getD_at hi]; exact g1, by rw [getD_at hi]; exact g2, ?_⟩
    by_cases h0 : i = 0
    · exact Or.inl h0
    · right
      have := List.pairwise_iff_getElem.1 h3 (i - 1) i (by omega) hi (by omega)
      rw [getD_at hi, getD_at (show i - 1 < l.length by omega)]
      exact this
theorem storeB_len {l : List Bl} (h : ¬ l.length ≤ 300) : storeB l = false := by unfold storeB; rw [decide_eq_false h, Bool.false_and]
theorem storeB_at {l : List Bl} {i : Nat} (hi : i < l.length) (h : okAt l i = false) : storeB l = false := by
  cases hs : storeB l with
  | false => rfl
  | true =>
    unfold storeB at hs
    rw [Bool.and_eq_true, List.all_eq_true] at hs
    rw [hs.2 i (List.mem_range.2 hi)] at h
    cases h
theorem storeB_all {l : List Bl} (h : l.length ≤ 300) (k : ∀ i, i < l.length → okAt l i = true) : storeB l = true := by
  unfold storeB
  rw [decide_eq_true h, Bool.true_and, List.all_eq_true]
  exact fun i hi => k i (List.mem_range.1 hi)

/-- the blob of a digest -/
def findB (l : List Bl) (d : Int) : Option Bl := l.find? fun p => p.1 == d
theorem findB_some {l : List Bl} {d : Int} {p : Bl} (h : findB l d = some p) : p ∈ l ∧ p.1 = d := ⟨List.mem_of_find?_eq_some h, by have := List.find?_some h; simpa using this⟩
theorem findB_none {l : List Bl} {d : Int} : findB l d = none ↔ ∀ p ∈ l, p.1 ≠ d := by
  unfold findB
  rw [List.find?_eq_none]
  simp
theorem rise_eq {l : List Bl} (h : l.Pairwise (fun p q => p.1 < q.1)) {p q : Bl} (hp : p ∈ l) (hq : q ∈ l) (e : p.1 = q.1) : p = q := by
  obtain ⟨i, hi, rfl⟩ := List.getElem_of_mem hp
  obtain ⟨j, hj, rfl⟩ := List.getElem_of_mem hq
  rcases Nat.lt_trichotomy i j with g | g | g
  · have := List.pairwise_iff_getElem.1 h i j hi hj g; omega
  · subst g; rfl
  · have := List.pairwise_iff_getElem.1 h j i hj hi g; omega
theorem findB_mem {l : List Bl} (h : l.Pairwise (fun p q => p.1 < q.1)) {p : Bl} (hp : p ∈ l) : findB l p.1 = some p := by
  cases hf : findB l p.1 with
  | none => exact absurd rfl (findB_none.1 hf p hp)
  | some q =>
    obtain ⟨h1, h2⟩ := findB_some hf
    rw [rise_eq h h1 hp h2]
/-- in its place -/
def insB (l : List Bl) (p : Bl) : List Bl := (l.filter fun q => decide (q.1 < p.1)) ++ p :: l.filter fun q => decide (p.1 < q.1)
theorem insB_mem {l : List Bl} {p q : Bl} (hn : ∀ x ∈ l, x.1 ≠ p.1) : q ∈ insB l p ↔ q = p ∨ q ∈ l := by
  unfold insB
  rw [List.mem_append, List.mem_cons, List.mem_filter, List.mem_filter, decide_eq_true_eq, decide_eq_true_eq]
  constructor
  · rintro (h | h | h)
    · exact Or.inr h.1
    · exact Or.inl h
    · exact Or.inr h.1
  · rintro (h | h)
    · exact Or.inr (Or.inl h)
    · rcases Int.lt_trichotomy q.1 p.1 with g | g | g
      · exact Or.inl ⟨h, g⟩
      · exact absurd g (hn q h)
      · exact Or.inr (Or.inr ⟨h, g⟩)
theorem insB_rise {l : List Bl} {p : Bl} (h : l.Pairwise (fun p q => p.1 < q.1)) : (insB l p).Pairwise (fun p q => p.1 < q.1) := by
  unfold insB
  refine List.pairwise_append.2 ⟨h.filter _, List.pairwise_cons.2 ⟨fun q hq => ?_, h.filter _⟩, fun a ha b hb => ?_⟩
  · exact of_decide_eq_true (List.mem_filter.1 hq).2
  · have h1 := of_decide_eq_true (List.mem_filter.1 ha).2
    rcases List.mem_cons.1 hb with rfl | hb
    · exact h1
    · have h2 := of_decide_eq_true (List.mem_filter.1 hb).2
      omega
theorem insB_len {l : List Bl} {p : Bl} (hn : ∀ x ∈ l, x.1 ≠ p.1) : (insB l p).length = l.length + 1 := by
  unfold insB
  rw [List.length_append, List.length_cons]
  have : ∀ l : List Bl, (∀ x ∈ l, x.1 ≠ p.1) → (l.filter fun q => decide (q.1 < p.1)).length + (l.filter fun q => decide (p.1 < q.1)).length = l.length := by
    intro l
    induction l with
    | nil => intro _; rfl
    | cons a t ih =>
      intro h
      have := ih fun x hx => h x (by simp [hx])
      have ha := h a (by simp)
      rcases Int.lt_trichotomy a.1 p.1 with g | g | g
      · rw [List.filter_cons_of_pos (by simpa using g), List.filter_cons_of_neg (by simp; omega)]
        simp
        omega
      · exact absurd g ha
      · rw [List.filter_cons_of_neg (by simp; omega), List.filter_cons_of_pos (by simpa using g)]
        simp
        omega
  have := this l hn
  omega
/-- what Put tells -/
def putT (l : List Bl) (s : ByteArray) : List Bl × Int × Int :=
  if storeB l = true then
    (if 2000 < s.size then (l, 0, 4) else
      match findB l (digest s) with
      | some p => if p.2 = s then (l, digest s, 1) else (l, 0, 2)
      | none => if l.length = 300 then (l, 0, 3) else (insB l (digest s, s), digest s, 0))
  else ([], 0, 4)
/-- what Get tells -/
def getT (l : List Bl) (d : Int) : Option ByteArray := if storeB l = true then (findB l d).map (·.2) else none
/-- what Drop tells -/
def dropT (l : List Bl) (ds : List Int) : List Bl := if storeB l = true then l.filter fun p => !(ds.contains p.1) else []
/-- those that are not there, each once -/
def missF (l : List Bl) : List Int → List Int → List Int
  | [], acc => acc
  | d :: r, acc => if (findB l d).isNone && !(acc.contains d) then missF l r (acc ++ [d]) else missF l r acc
/-- what Missing tells -/
def missT (l : List Bl) (ds : List Int) : List Int := if storeB l = true then missF l ds [] else []

theorem getT_digest {l : List Bl} {d : Int} {t : ByteArray} (h : getT l d = some t) : digest t = d := by
  unfold getT at h
  split at h
  · rename_i hs
    obtain ⟨p, hp, rfl⟩ := Option.map_eq_some_iff.1 h
    obtain ⟨h1, h2⟩ := findB_some hp
    rw [← h2, ((storeB_iff.1 hs).2.1 p h1).2]
  · cases h
theorem drop_sto {l : List Bl} {ds : List Int} (h : storeB l = true) : storeB (dropT l ds) = true := by
  unfold dropT
  rw [if_pos h]
  obtain ⟨h1, h2, h3⟩ := storeB_iff.1 h
  exact storeB_iff.2 ⟨Nat.le_trans (List.length_filter_le _ _) h1, fun p hp => h2 p (List.mem_filter.1 hp).1, h3.filter _⟩
theorem drop_none {l : List Bl} {ds : List Int} {d : Int} (h : storeB l = true) (hd : d ∈ ds) : getT (dropT l ds) d = none := by
  unfold getT
  rw [if_pos (drop_sto h)]
  have : findB (dropT l ds) d = none := findB_none.2 fun p hp e => by
    unfold dropT at hp
    rw [if_pos h] at hp
    have := (List.mem_filter.1 hp).2
    rw [e] at this
    simp [hd] at this
  rw [this]
  rfl
theorem drop_find {l : List Bl} {ds : List Int} {d : Int} (h : storeB l = true) (hn : findB l d = none) : findB (dropT l ds) d = none := by
  refine findB_none.2 fun p hp => findB_none.1 hn p ?_
  unfold dropT at hp
  rw [if_pos h] at hp
  exact (List.mem_filter.1 hp).1
/-- what is missing is missing, each once -/
theorem missF_ok {l : List Bl} : ∀ (ds acc : List Int), (∀ d ∈ acc, findB l d = none) → acc.Nodup → (∀ d ∈ missF l ds acc, findB l d = none) ∧ (missF l ds acc).Nodup
  | [], acc, h1, h2 => ⟨h1, h2⟩
  | d :: r, acc, h1, h2 => by
    unfold missF
    by_cases hc : ((findB l d).isNone && !(acc.contains d)) = true
    · rw [if_pos hc]
      rw [Bool.and_eq_true] at hc
      have hd : findB l d = none := by simpa using hc.1
      have hna : d ∉ acc := by simpa using hc.2
      refine missF_ok r _ (fun x hx => ?_) (List.nodup_append.2 ⟨h2, by simp, fun a ha b hb e => ?_⟩)
      · rcases List.mem_append.1 hx with hx | hx
        · exact h1 x hx
        · rw [List.mem_singleton.1 hx]; exact hd
      · rw [List.mem_singleton.1 hb] at e
        rw [e] at ha
        exact hna ha
    · rw [if_neg hc]
      exact missF_ok r acc h1 h2
theorem missF_all {l : List Bl} : ∀ (ds acc : List Int), (∀ d ∈ ds, findB l d = none) → (acc ++ ds).Nodup → missF l ds acc = acc ++ ds
  | [], acc, _, _ => by simp [missF]
  | d :: r, acc, h1, h2 => by
    unfold missF
    have hd : findB l d = none := h1 d (by simp)
    have hna : d ∉ acc := fun h => (List.nodup_append.1 h2).2.2 d h d (by simp) rfl
    rw [if_pos (by simp [hd, hna]), missF_all r _ (fun x hx => h1 x (by simp [hx])) (by simpa using h2)]
    simp
theorem miss_again {l : List Bl} {ds : List Int} (h : storeB l = true) : missT (dropT l ds) (missT l ds) = missT l ds := by
  obtain ⟨h1, h2⟩ := missF_ok (l := l) ds [] (fun d hd => by cases hd) (by simp)
  unfold missT
  rw [if_pos h, if_pos (drop_sto h), missF_all (l := dropT l ds) _ [] (fun d hd => drop_find h (h1 d hd)) (by simpa using h2)]
  rfl
/-- what is put is got, all else as it was -/
theorem put_ok {l : List Bl} {s : ByteArray} (h : storeB l = true) (hk : (putT l s).2.2 = 0 ∨ (putT l s).2.2 = 1) :
    storeB (putT l s).1 = true ∧ (putT l s).2.1 = digest s ∧ getT (putT l s).1 (digest s) = some s ∧ (∀ p ∈ l, getT (putT l s).1 p.1 = some p.2) ∧ ((putT l s).2.2 = 1 → (putT l s).1 = l) ∧ ((putT l s).2.2 = 0 → (putT l s).1.length = l.length + 1) := by
  obtain ⟨h1, h2, h3⟩ := storeB_iff.1 h
  have hget : ∀ (m : List Bl), storeB m = true → ∀ p ∈ m, getT m p.1 = some p.2 := fun m hm p hp => by
    unfold getT
    rw [if_pos hm, findB_mem (storeB_iff.1 hm).2.2 hp]
    rfl
  unfold putT at hk ⊢
  rw [if_pos h] at hk ⊢
  by_cases hb : 2000 < s.size
  · rw [if_pos hb] at hk
    rcases hk with hk | hk <;> cases hk
  rw [if_neg hb] at hk ⊢
  cases hf : findB l (digest s) with
  | some p =>
    rw [hf] at hk
    obtain ⟨p1, p2⟩ := findB_some hf
    by_cases hp : p.2 = s
    · simp only [if_pos hp]
      exact ⟨h, trivial, by rw [← p2, hget l h p p1, hp], fun q hq => hget l h q hq, fun _ => trivial, fun e => absurd e (by omega)⟩
    · simp only [if_neg hp] at hk
      rcases hk with hk | hk <;> cases hk
  | none =>
    rw [hf] at hk
    have hn := findB_none.1 hf
    by_cases h300 : l.length = 300
    · simp only [if_pos h300] at hk
      rcases hk with hk | hk <;> cases hk
    simp only [if_neg h300]
    have hs : storeB (insB l (digest s, s)) = true := storeB_iff.2 ⟨by rw [insB_len hn]; omega, fun q hq => by
      rcases (insB_mem hn).1 hq with rfl | hq
      · exact ⟨by show s.size ≤ 2000; omega, rfl⟩
      · exact h2 q hq, insB_rise h3⟩
    exact ⟨hs, trivial, hget _ hs (digest s, s) ((insB_mem (p := (digest s, s)) hn).2 (Or.inl rfl)), fun q hq => hget _ hs q ((insB_mem (p := (digest s, s)) hn).2 (Or.inr hq)), fun e => absurd e (by omega), fun _ => insB_len (p := (digest s, s)) hn⟩
theorem put_not {l : List Bl} {s : ByteArray} (h : storeB l = true) (hk : (putT l s).2.2 ≠ 0 ∧ (putT l s).2.2 ≠ 1) : (putT l s).1 = l ∧ (putT l s).2.1 = 0 := by
  unfold putT at hk ⊢
  rw [if_pos h] at hk ⊢
  by_cases hb : 2000 < s.size
  · rw [if_pos hb]
    exact ⟨rfl, rfl⟩
  rw [if_neg hb] at hk ⊢
  cases hf : findB l (digest s) with
  | some p =>
    rw [hf] at hk
    by_cases hp : p.2 = s
    · simp only [if_pos hp] at hk
      exact absurd rfl hk.2
    · simp only [if_neg hp]
      exact ⟨trivial, trivial⟩
  | none =>
    rw [hf] at hk
    by_cases h300 : l.length = 300
    · simp only [if_pos h300]
      exact ⟨trivial, trivial⟩
    · simp only [if_neg h300] at hk
      exact absurd rfl hk.1
/-- two stores of one content are alike -/
theorem rise_same : ∀ {l m : List Bl}, l.Pairwise (fun p q => p.1 < q.1) → m.Pairwise (fun p q => p.1 < q.1) → (∀ p, p ∈ l ↔ p ∈ m) → l = m
  | [], [], _, _, _ => rfl
  | [], q :: m, _, _, h => by have := (h q).2 (by simp); cases this
  | p :: l, [], _, _, h => by have := (h p).1 (by simp); cases this
  | p :: l, q :: m, hl, hm, h => by
    obtain ⟨a1, a2⟩ := List.pairwise_cons.1 hl
    obtain ⟨b1, b2⟩ := List.pairwise_cons.1 hm
    have hpq : p = q := by
      rcases List.mem_cons.1 ((h p).1 (by simp)) with e | e
      · exact e
      · rcases List.mem_cons.1 ((h q).2 (by simp)) with e2 | e2
        · exact e2.symm
        · have := b1 p e
          have := a1 q e2
          omega
    subst hpq
    rw [rise_same a2 b2 fun x => ⟨fun hx => ?_, fun hx => ?_⟩]
    · rcases List.mem_cons.1 ((h x).1 (by simp [hx])) with e | e
      · have := a1 x hx
        rw [e] at this
        omega
      · exact e
    · rcases List.mem_cons.1 ((h x).2 (by simp [hx])) with e | e
      · have := b1 x hx
        rw [e] at this
        omega
      · exact e
end Go.Proofs.Ytfoncmeplofedae
