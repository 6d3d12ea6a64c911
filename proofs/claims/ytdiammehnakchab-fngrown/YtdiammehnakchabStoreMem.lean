/- STORES OF A LIST OF TEXTS, over lists: what is put one by one lies there, each under its digest. It speaks of no function of the program. -/
import Derived.Test.YtdiammehnakchabBlobMath
import Derived.Test.YtdiammehnakchabClashes
namespace Go.Proofs.Ytdiammehnakchab
open Go.RowKit
set_option linter.unusedVariables false
/-- the store holds just these texts -/
def MemP (a : List Bl) (S : List ByteArray) : Prop := storeB a = true ∧ a.length ≤ S.length ∧ ∀ p, p ∈ a ↔ ∃ t ∈ S, p = (digest t, t)
theorem mem_start : MemP [] [] := ⟨rfl, Nat.le_refl _, fun p => ⟨fun h => absurd h List.not_mem_nil, fun ⟨t, h, _⟩ => absurd h List.not_mem_nil⟩⟩
theorem mem_find {a : List Bl} {S : List ByteArray} {s : ByteArray} (h : MemP a S) (hs : s ∈ S) : findB a (digest s) = some (digest s, s) :=
  findB_mem (p := (digest s, s)) (storeB_iff.1 h.1).2.2 ((h.2.2 _).2 ⟨s, hs, rfl⟩)
theorem mem_again {a : List Bl} {S : List ByteArray} {s : ByteArray} (h : MemP a S) (hs : s ∈ S) : putT a s = (a, digest s, 1) := by
  have h2 := ((storeB_iff.1 h.1).2.1 (digest s, s) ((h.2.2 _).2 ⟨s, hs, rfl⟩)).1
  simp only at h2
  unfold putT
  rw [if_pos h.1, if_neg (by omega), mem_find h hs]
  simp only [if_true]
theorem mem_put {a : List Bl} {S : List ByteArray} {s : ByteArray} (h : MemP a S) (hc : ∀ t ∈ S, digest t = digest s → t = s) (hs : s.size ≤ 2000) (hl : S.length < 300) : MemP (putT a s).1 (S ++ [s]) := by
  by_cases hm : s ∈ S
  · rw [mem_again h hm]
    refine ⟨h.1, by rw [List.length_append]; have := h.2.1; simp only; omega, fun p => (h.2.2 p).trans ⟨fun ⟨t, ht, e⟩ => ⟨t, by simp [ht], e⟩, fun ⟨t, ht, e⟩ => ?_⟩⟩
    rcases List.mem_append.1 ht with ht | ht
    · exact ⟨t, ht, e⟩
    · rw [List.mem_singleton.1 ht] at e; exact ⟨s, hm, e⟩
  · have hn : findB a (digest s) = none := findB_none.2 fun p hp e => by
      obtain ⟨t, ht, rfl⟩ := (h.2.2 p).1 hp
      exact hm (hc t ht e ▸ ht)
    have hal : a.length ≠ 300 := by have := h.2.1; omega
    have e : putT a s = (insB a (digest s, s), digest s, 0) := by
      unfold putT
      rw [if_pos h.1, if_neg (by omega), hn]
      simp only
      rw [if_neg hal]
    have hok := (put_ok (s := s) h.1 (by rw [e]; exact Or.inl rfl)).1
    rw [e] at hok
    rw [e]
    refine ⟨hok, by rw [insB_len (p := (digest s, s)) (findB_none.1 hn), List.length_append, List.length_singleton]; have := h.2.1; omega, fun p => (insB_mem (p := (digest s, s)) (findB_none.1 hn)).trans ⟨fun hp => ?_, fun ⟨t, ht, e⟩ => ?_⟩⟩
    · rcases hp with hp | hp
      · exact ⟨s, by simp, hp⟩
      · obtain ⟨t, ht, e⟩ := (h.2.2 p).1 hp
        exact ⟨t, by simp [ht], e⟩
    · rcases List.mem_append.1 ht with ht | ht
      · exact Or.inr ((h.2.2 p).2 ⟨t, ht, e⟩)
      · rw [List.mem_singleton.1 ht] at e; exact Or.inl e
theorem mem_same {a b : List Bl} {S T : List ByteArray} (h : MemP a S) (k : MemP b T) (e : ∀ t, t ∈ S ↔ t ∈ T) : a = b :=
  rise_same (storeB_iff.1 h.1).2.2 (storeB_iff.1 k.1).2.2 fun p => (h.2.2 p).trans (Iff.trans ⟨fun ⟨t, ht, e1⟩ => ⟨t, (e t).1 ht, e1⟩, fun ⟨t, ht, e1⟩ => ⟨t, (e t).2 ht, e1⟩⟩ (k.2.2 p).symm)
theorem calm_all {l : List ByteArray} (h : clashesB l = false) {i j : Nat} (hi : i < l.length) (hj : j < l.length) (e : digest (l.getD i ByteArray.empty) = digest (l.getD j ByteArray.empty)) : l.getD i ByteArray.empty = l.getD j ByteArray.empty := by
  rcases Nat.lt_trichotomy i j with g | g | g
  · by_cases hx : l.getD i ByteArray.empty = l.getD j ByteArray.empty
    · exact hx
    · rw [clashesB_of hj g ((clashB_iff _ _).2 ⟨fun h => hx h.symm, e.symm⟩)] at h
      cases h
  · rw [g]
  · by_cases hx : l.getD i ByteArray.empty = l.getD j ByteArray.empty
    · exact hx
    · rw [clashesB_of hi g ((clashB_iff _ _).2 ⟨hx, e⟩)] at h
      cases h
theorem take_mem {l : List ByteArray} {k : Nat} {t : ByteArray} (h : t ∈ l.take k) : ∃ i, i < l.length ∧ t = l.getD i ByteArray.empty := by
  obtain ⟨i, hi, e⟩ := List.getElem_of_mem (List.mem_of_mem_take h)
  exact ⟨i, hi, by simp [List.getD, hi, e]⟩
theorem take_more {l : List ByteArray} {k : Nat} (h : k < l.length) : l.take (k + 1) = l.take k ++ [l.getD k ByteArray.empty] := by
  rw [List.take_succ_eq_append_getElem h]
  simp [List.getD, h]
end Go.Proofs.Ytdiammehnakchab
