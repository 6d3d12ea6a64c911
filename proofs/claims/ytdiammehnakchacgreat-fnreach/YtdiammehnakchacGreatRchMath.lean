/- WHAT ONE COMES TO, over lists: a row that rises and takes one in; a list that is gone through while it grows; how many there can be. It speaks of no function of the program. -/
import Derived.Test.YtdiammehnakchacGreatToldMath
namespace Go.Proofs.YtdiammehnakchacGreat
open Go.RowKit
set_option linter.unusedVariables false
abbrev stO (l : List Bl) (d : Int) : Option ByteArray := (findB l d).map (·.2)
/-- what lies below a digest, of what is there -/
def belowT (st : Int → Option ByteArray) (d : Int) : List Int := match st d with
  | none => []
  | some s => (childT s).getD []
theorem below_rch {st : Int → Option ByteArray} {roots : List Int} {d c : Int} (h : Rch st roots d) (hc : c ∈ belowT st d) : Rch st roots c := by
  unfold belowT at hc
  cases hs : st d with
  | none => rw [hs] at hc; cases hc
  | some s =>
    rw [hs] at hc
    simp only at hc
    cases hl : childT s with
    | none => rw [hl] at hc; cases hc
    | some l => rw [hl] at hc; exact Rch.next h hs hl hc
theorem below_is {st : Int → Option ByteArray} {d : Int} {s : ByteArray} {l : List Int} (hs : st d = some s) (hl : childT s = some l) : belowT st d = l := by
  unfold belowT
  rw [hs]
  simp [hl]
/-- a row that holds the roots and goes on from each to what is below holds all that one comes to -/
theorem rch_closed {st : Int → Option ByteArray} {roots R : List Int} (hr : ∀ r ∈ roots, r ∈ R) (hc : ∀ d ∈ R, ∀ c ∈ belowT st d, c ∈ R) {d : Int} (h : Rch st roots d) : d ∈ R := by
  induction h with
  | root h1 => exact hr _ h1
  | next _ h2 h3 h4 ih => exact hc _ ih _ (by rw [below_is h2 h3]; exact h4)
/-- a row that rises, with one more -/
theorem rise_in {L : List Int} (hL : L.Pairwise (· < ·)) {n : Int} {k : Nat} (hk : k ≤ L.length) (h1 : ∀ j, j < k → L.getD j 0 < n) (h2 : ∀ j, k ≤ j → j < L.length → n < L.getD j 0) : (L.take k ++ [n] ++ L.drop k).Pairwise (· < ·) := by
  have get : ∀ j (hj : j < L.length), L.getD j 0 = L[j] := fun j hj => by simp [List.getD, hj]
  have ht : ∀ x ∈ L.take k, x < n := fun x hx => by
    obtain ⟨j, hj, rfl⟩ := List.getElem_of_mem hx
    rw [List.length_take] at hj
    rw [List.getElem_take, ← get j (by omega)]
    exact h1 j (by omega)
  have hd : ∀ x ∈ L.drop k, n < x := fun x hx => by
    obtain ⟨j, hj, rfl⟩ := List.getElem_of_mem hx
    rw [List.length_drop] at hj
    rw [List.getElem_drop, ← get (k + j) (by omega)]
    exact h2 (k + j) (by omega) (by omega)
  rw [List.append_assoc, List.pairwise_append]
  refine ⟨hL.sublist (List.take_sublist _ _), ?_, fun x hx y hy => ?_⟩
  · rw [List.singleton_append, List.pairwise_cons]
    exact ⟨fun x hx => hd x hx, hL.sublist (List.drop_sublist _ _)⟩
  · rcases List.mem_append.1 hy with hy | hy
    · rw [List.mem_singleton.1 hy]; exact ht x hx
    · have := ht x hx
      have := hd y hy
      omega
theorem mem_in {L : List Int} {n x : Int} {k : Nat} : x ∈ L.take k ++ [n] ++ L.drop k ↔ x = n ∨ x ∈ L := by
  have h : x ∈ L ↔ x ∈ L.take k ∨ x ∈ L.drop k := by
    rw [← List.mem_append, List.take_append_drop]
  rw [h, List.mem_append, List.mem_append, List.mem_singleton]
  constructor
  · rintro ((h | h) | h)
    · exact Or.inr (Or.inl h)
    · exact Or.inl h
    · exact Or.inr (Or.inr h)
  · rintro (h | h | h)
    · exact Or.inl (Or.inr h)
    · exact Or.inl (Or.inl h)
    · exact Or.inr h
theorem nodup_len : ∀ {l m : List Int}, l.Nodup → (∀ x ∈ l, x ∈ m) → l.length ≤ m.length
  | [], m, _, _ => Nat.zero_le _
  | a :: l, m, hn, hs => by
    obtain ⟨h1, h2⟩ := List.nodup_cons.1 hn
    have ha := hs a (by simp)
    have h3 := nodup_len (l := l) (m := m.erase a) h2 (fun x hx => (List.mem_erase_of_ne (fun e => h1 (by rw [← e]; exact hx))).2 (hs x (by simp [hx])))
    rw [List.length_erase_of_mem ha] at h3
    have := List.length_pos_of_mem ha
    rw [List.length_cons]
    omega
theorem rise_nodup {L : List Int} (h : L.Pairwise (· < ·)) : L.Nodup := h.imp (fun h e => by omega)
/-- all that can be come to -/
def univT (l : List Bl) (roots : List Int) : List Int := roots ++ l.flatMap fun p => (childT p.2).getD []
theorem child_four (s : ByteArray) : ((childT s).getD []).length ≤ 4 := by
  cases h : childT s with
  | none => simp
  | some l =>
    rcases child_back h with ⟨_, _, rfl⟩ | ⟨_, hk⟩
    · simp
    · simpa using hk.2.1
theorem univ_len (l : List Bl) (roots : List Int) : (univT l roots).length ≤ roots.length + 4 * l.length := by
  unfold univT
  rw [List.length_append]
  have : ∀ l : List Bl, (l.flatMap fun p => (childT p.2).getD []).length ≤ 4 * l.length := by
    intro l
    induction l with
    | nil => simp
    | cons p r ih =>
      rw [List.flatMap_cons, List.length_append, List.length_cons]
      have := child_four p.2
      omega
  have := this l
  omega
theorem stO_mem {l : List Bl} {d : Int} {s : ByteArray} (h : stO l d = some s) : ∃ p ∈ l, p.2 = s := by
  unfold stO findB at h
  cases hf : l.find? (fun p => p.1 == d) with
  | none => rw [hf] at h; cases h
  | some p =>
    rw [hf] at h
    exact ⟨p, List.mem_of_find?_eq_some hf, Option.some.inj h⟩
theorem rch_univ {l : List Bl} {roots : List Int} {d : Int} (h : Rch (stO l) roots d) : d ∈ univT l roots := by
  cases h with
  | root h1 => exact List.mem_append_left _ h1
  | next h1 h2 h3 h4 =>
    obtain ⟨p, hp, rfl⟩ := stO_mem h2
    refine List.mem_append_right _ (List.mem_flatMap.2 ⟨p, hp, ?_⟩)
    rw [h3]
    exact h4
/-- the specification's walk: what has come, what is to be gone to -/
def SInv (st : Int → Option ByteArray) (roots out todo : List Int) : Prop :=
  out.Pairwise (· < ·) ∧ (∀ d ∈ out, Rch st roots d) ∧ (∀ d ∈ todo, Rch st roots d) ∧ (∀ r ∈ roots, r ∈ out ∨ r ∈ todo) ∧ ∀ d ∈ out, ∀ c ∈ belowT st d, c ∈ out ∨ c ∈ todo
theorem sinv_start (st : Int → Option ByteArray) (roots : List Int) : SInv st roots [] roots := ⟨List.Pairwise.nil, fun d h => (by cases h), fun d h => Rch.root h, fun r h => Or.inr h, fun d h => (by cases h)⟩
theorem sinv_end {st : Int → Option ByteArray} {roots out : List Int} (h : SInv st roots out []) : IsReach st roots out :=
  ⟨h.1, fun d => ⟨fun hd => h.2.1 d hd, fun hd => rch_closed (fun r hr => (h.2.2.2.1 r hr).elim id (fun e => by cases e)) (fun d hd c hc => (h.2.2.2.2 d hd c hc).elim id (fun e => by cases e)) hd⟩⟩
theorem sinv_has {st : Int → Option ByteArray} {roots out todo : List Int} {d : Int} (h : SInv st roots out (d :: todo)) (hd : d ∈ out) : SInv st roots out todo := by
  obtain ⟨h1, h2, h3, h4, h5⟩ := h
  have go : ∀ x, x ∈ out ∨ x ∈ d :: todo → x ∈ out ∨ x ∈ todo := fun x hx => by
    rcases hx with hx | hx
    · exact Or.inl hx
    · rcases List.mem_cons.1 hx with rfl | hx
      · exact Or.inl hd
      · exact Or.inr hx
  exact ⟨h1, h2, fun x hx => h3 x (by simp [hx]), fun r hr => go r (h4 r hr), fun e he c hc => go c (h5 e he c hc)⟩
theorem sinv_new {st : Int → Option ByteArray} {roots out todo M : List Int} {d : Int} (h : SInv st roots out (d :: todo)) (hM : M.Pairwise (· < ·)) (hm : ∀ x, x ∈ M ↔ x = d ∨ x ∈ out) : SInv st roots M (todo ++ belowT st d) := by
  obtain ⟨h1, h2, h3, h4, h5⟩ := h
  have hd := h3 d (by simp)
  have go : ∀ x, x ∈ out ∨ x ∈ d :: todo → x ∈ M ∨ x ∈ todo ++ belowT st d := fun x hx => by
    rcases hx with hx | hx
    · exact Or.inl ((hm x).2 (Or.inr hx))
    · rcases List.mem_cons.1 hx with rfl | hx
      · exact Or.inl ((hm x).2 (Or.inl rfl))
      · exact Or.inr (List.mem_append_left _ hx)
  refine ⟨hM, fun x hx => ?_, fun x hx => ?_, fun r hr => go r (h4 r hr), fun e he c hc => ?_⟩
  · rcases (hm x).1 hx with rfl | hx
    · exact hd
    · exact h2 x hx
  · rcases List.mem_append.1 hx with hx | hx
    · exact h3 x (by simp [hx])
    · exact below_rch hd hx
  · rcases (hm e).1 he with rfl | he
    · exact Or.inr (List.mem_append_right _ hc)
    · exact go c (h5 e he c hc)
theorem sinv_len {l : List Bl} {roots out todo : List Int} (h : SInv (stO l) roots out todo) : out.length ≤ roots.length + 4 * l.length :=
  Nat.le_trans (nodup_len (rise_nodup h.1) (fun d hd => rch_univ (h.2.1 d hd))) (univ_len l roots)
/-- a list with what is new of another one behind it -/
def comeL (all ds : List Int) : List Int := ds.foldl (fun a d => if a.contains d then a else a ++ [d]) all
theorem come_nil (all : List Int) : comeL all [] = all := rfl
theorem come_has {all ds : List Int} {d : Int} (h : all.contains d = true) : comeL all (d :: ds) = comeL all ds := by
  show ds.foldl _ (if all.contains d then all else all ++ [d]) = _
  rw [if_pos h]
  rfl
theorem come_new {all ds : List Int} {d : Int} (h : all.contains d = false) : comeL all (d :: ds) = comeL (all ++ [d]) ds := by
  show ds.foldl _ (if all.contains d then all else all ++ [d]) = _
  rw [if_neg (by rw [h]; decide)]
  rfl
theorem come_pre : ∀ (ds all : List Int), ∃ r, comeL all ds = all ++ r
  | [], all => ⟨[], by simp [comeL]⟩
  | d :: ds, all => by
    cases h : all.contains d with
    | true => rw [come_has h]; exact come_pre ds all
    | false =>
      rw [come_new h]
      obtain ⟨r, hr⟩ := come_pre ds (all ++ [d])
      exact ⟨d :: r, by rw [hr]; simp⟩
theorem come_mem : ∀ (ds all : List Int) (x : Int), x ∈ comeL all ds ↔ x ∈ all ∨ x ∈ ds
  | [], all, x => by simp [comeL]
  | d :: ds, all, x => by
    cases h : all.contains d with
    | true =>
      have hd : d ∈ all := by simpa using h
      rw [come_has h, come_mem ds all x, List.mem_cons]
      constructor
      · rintro (h | h)
        · exact Or.inl h
        · exact Or.inr (Or.inr h)
      · rintro (h | rfl | h)
        · exact Or.inl h
        · exact Or.inl hd
        · exact Or.inr h
    | false =>
      rw [come_new h, come_mem ds (all ++ [d]) x, List.mem_append, List.mem_singleton, List.mem_cons]
      constructor
      · rintro ((h | h) | h)
        · exact Or.inl h
        · exact Or.inr (Or.inl h)
        · exact Or.inr (Or.inr h)
      · rintro (h | h | h)
        · exact Or.inl (Or.inl h)
        · exact Or.inl (Or.inr h)
        · exact Or.inr h
theorem come_nodup : ∀ (ds all : List Int), all.Nodup → (comeL all ds).Nodup
  | [], all, h => h
  | d :: ds, all, h => by
    cases hc : all.contains d with
    | true => rw [come_has hc]; exact come_nodup ds all h
    | false =>
      rw [come_new hc]
      have hd : ¬ d ∈ all := by
        intro e
        have : all.contains d = true := by simpa using e
        rw [hc] at this
        cases this
      refine come_nodup ds _ (List.nodup_append.2 ⟨h, by simp, fun a ha b hb e => ?_⟩)
      rw [List.mem_singleton.1 hb] at e
      exact hd (e ▸ ha)
theorem come_len (ds all : List Int) : (comeL all ds).length ≤ all.length + ds.length := by
  induction ds generalizing all with
  | nil => simp [comeL]
  | cons d ds ih =>
    cases h : all.contains d with
    | true => rw [come_has h, List.length_cons]; have := ih all; omega
    | false =>
      rw [come_new h, List.length_cons]
      have := ih (all ++ [d])
      rw [List.length_append, List.length_singleton] at this
      omega
/-- the program's walk: what has come, of which the first i are gone on from -/
def IInv (st : Int → Option ByteArray) (roots all : List Int) (i : Nat) : Prop :=
  all.Nodup ∧ (∀ d ∈ all, Rch st roots d) ∧ (∀ r ∈ roots, r ∈ all) ∧ ∀ j, j < i → j < all.length → ∀ c ∈ belowT st (all.getD j 0), c ∈ all
theorem iinv_start (st : Int → Option ByteArray) (roots : List Int) : IInv st roots (comeL [] roots) 0 :=
  ⟨come_nodup _ _ List.nodup_nil, fun d hd => Rch.root (by rcases (come_mem _ _ _).1 hd with h | h; · cases h
                                                           · exact h), fun r hr => (come_mem _ _ _).2 (Or.inr hr), fun j h => by omega⟩
theorem iinv_next {st : Int → Option ByteArray} {roots all : List Int} {i : Nat} (h : IInv st roots all i) (hi : i < all.length) : IInv st roots (comeL all (belowT st (all.getD i 0))) (i + 1) := by
  obtain ⟨h1, h2, h3, h4⟩ := h
  have hget : all.getD i 0 ∈ all := by
    have e : all.getD i 0 = all[i] := by simp [List.getD, hi]
    rw [e]; exact List.getElem_mem hi
  refine ⟨come_nodup _ _ h1, fun d hd => ?_, fun r hr => (come_mem _ _ _).2 (Or.inl (h3 r hr)), fun j hj hjl c hc => ?_⟩
  · rcases (come_mem _ _ _).1 hd with h | h
    · exact h2 d h
    · exact below_rch (h2 _ hget) h
  · obtain ⟨r, hr⟩ := come_pre (belowT st (all.getD i 0)) all
    have e : (comeL all (belowT st (all.getD i 0))).getD j 0 = all.getD j 0 := by
      rw [hr]
      simp [List.getD, List.getElem?_append_left (show j < all.length by omega)]
    rw [e] at hc
    rcases Nat.lt_or_ge j i with g | g
    · exact (come_mem _ _ _).2 (Or.inl (h4 j g (by omega) c hc))
    · obtain rfl : j = i := by omega
      exact (come_mem _ _ _).2 (Or.inr hc)
theorem iinv_skip {st : Int → Option ByteArray} {roots all : List Int} {i : Nat} (h : IInv st roots all i) (hi : i < all.length) (hb : belowT st (all.getD i 0) = []) : IInv st roots all (i + 1) := by
  have := iinv_next h hi
  rw [hb] at this
  exact this
theorem iinv_len {l : List Bl} {roots all : List Int} {i : Nat} (h : IInv (stO l) roots all i) : all.length ≤ roots.length + 4 * l.length :=
  Nat.le_trans (nodup_len h.1 (fun d hd => rch_univ (h.2.1 d hd))) (univ_len l roots)
theorem sorted_lt {l : List Int} (h : l.Nodup) : (l.mergeSort fun x y => decide (x ≤ y)).Pairwise (· < ·) := by
  have h1 : (l.mergeSort fun x y => decide (x ≤ y)).Pairwise (fun x y => decide (x ≤ y) = true) := List.pairwise_mergeSort (fun a b c => by simp; omega) (fun a b => by simp; omega) l
  have h2 : (l.mergeSort fun x y => decide (x ≤ y)).Nodup := (List.mergeSort_perm l _).nodup_iff.2 h
  have h3 := h1.and h2
  exact h3.imp (fun ⟨a, b⟩ => by have := of_decide_eq_true a; omega)
theorem iinv_end {st : Int → Option ByteArray} {roots all : List Int} {i : Nat} (h : IInv st roots all i) (hi : all.length ≤ i) : IsReach st roots (all.mergeSort fun x y => decide (x ≤ y)) := by
  refine ⟨sorted_lt h.1, fun d => ?_⟩
  rw [List.mem_mergeSort]
  refine ⟨fun hd => h.2.1 d hd, fun hd => rch_closed h.2.2.1 (fun e he c hc => ?_) hd⟩
  obtain ⟨j, hj, rfl⟩ := List.getElem_of_mem he
  have e : all.getD j 0 = all[j] := by simp [List.getD, hj]
  exact h.2.2.2 j (by omega) hj c (by rw [e]; exact hc)
end Go.Proofs.YtdiammehnakchacGreat
