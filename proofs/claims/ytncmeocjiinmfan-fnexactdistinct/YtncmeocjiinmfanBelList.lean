/- WHO MISSES HOW OFTEN, over lists: the plain rules (the last called, the first come, the latest called again), and how many unlike ones. It speaks of no function of the program. -/
import Derived.Test.YtncmeocjiinmfanBasis
namespace Go.Proofs.Ytncmeocjiinmfan
set_option linter.unusedVariables false
/-- when it is called again; the number of calls: never -/
def nx : List Int → Int → Nat
  | [], _ => 0
  | q :: cs, x => if q = x then 0 else nx cs x + 1
theorem nx_cons {q : Int} {cs : List Int} {x : Int} (h : q ≠ x) : nx (q :: cs) x = nx cs x + 1 := by
  show (if q = x then 0 else nx cs x + 1) = _
  rw [if_neg h]
theorem nx_same {q : Int} {cs : List Int} : nx (q :: cs) q = 0 := by
  show (if q = q then 0 else nx cs q + 1) = _
  rw [if_pos rfl]
/-- who goes: of the first k at hand the first one that is called again the latest, and when -/
def farK (cs H : List Int) : Nat → Int × Nat
  | 0 => (-1, 0)
  | k + 1 => if (farK cs H k).1 < (nx cs (H.getD k 0) : Int) then ((nx cs (H.getD k 0) : Int), k) else farK cs H k
theorem farK_is {cs H : List Int} : ∀ k, (k = 0 ∧ farK cs H k = (-1, 0)) ∨ ((farK cs H k).2 < k ∧ (farK cs H k).1 = (nx cs (H.getD (farK cs H k).2 0) : Int) ∧ ∀ j, j < k → (nx cs (H.getD j 0) : Int) ≤ (farK cs H k).1)
  | 0 => Or.inl ⟨rfl, rfl⟩
  | k + 1 => by
    refine Or.inr ?_
    show (if (farK cs H k).1 < (nx cs (H.getD k 0) : Int) then ((nx cs (H.getD k 0) : Int), k) else farK cs H k).2 < k + 1 ∧ (if (farK cs H k).1 < (nx cs (H.getD k 0) : Int) then ((nx cs (H.getD k 0) : Int), k) else farK cs H k).1 = (nx cs (H.getD (if (farK cs H k).1 < (nx cs (H.getD k 0) : Int) then ((nx cs (H.getD k 0) : Int), k) else farK cs H k).2 0) : Int) ∧ ∀ j, j < k + 1 → (nx cs (H.getD j 0) : Int) ≤ (if (farK cs H k).1 < (nx cs (H.getD k 0) : Int) then ((nx cs (H.getD k 0) : Int), k) else farK cs H k).1
    by_cases h : (farK cs H k).1 < (nx cs (H.getD k 0) : Int)
    · rw [if_pos h]
      refine ⟨Nat.lt_succ_self k, rfl, fun j hj => ?_⟩
      by_cases e : j = k
      · subst e; exact Int.le_refl _
      · rcases farK_is (cs := cs) (H := H) k with ⟨h0, _⟩ | ⟨_, _, h3⟩
        · omega
        · have := h3 j (by omega)
          simp only at this ⊢
          omega
    · rw [if_neg h]
      rcases farK_is (cs := cs) (H := H) k with ⟨h0, h1⟩ | ⟨h1, h2, h3⟩
      · rw [h1] at h
        simp only at h
        omega
      · refine ⟨by omega, h2, fun j hj => ?_⟩
        by_cases e : j = k
        · subst e; omega
        · exact h3 j (by omega)
/-- which place goes -/
def outI (rule : Nat) (cs H : List Int) : Nat := if rule = 2 then (farK cs H H.length).2 else 0
theorem outI_lt {rule : Nat} {cs H : List Int} (h : 0 < H.length) : outI rule cs H < H.length := by
  unfold outI
  split
  · rcases farK_is (cs := cs) (H := H) H.length with ⟨h0, _⟩ | ⟨h1, _⟩
    · omega
    · exact h1
  · exact h
def hitH (rule : Nat) (H : List Int) (q : Int) : List Int := if rule = 0 then H.erase q ++ [q] else H
/-- how many miss -/
def missL (rule room : Nat) : List Int → List Int → Nat
  | [], _ => 0
  | q :: cs, H => if q ∈ H then missL rule room cs (hitH rule H q) else missL rule room cs ((if H.length = room then H.eraseIdx (outI rule cs H) else H) ++ [q]) + 1
theorem missL_hit {rule room : Nat} {q : Int} {cs H : List Int} (h : q ∈ H) : missL rule room (q :: cs) H = missL rule room cs (hitH rule H q) := by
  show (if q ∈ H then _ else _) = _
  rw [if_pos h]
theorem missL_new {rule room : Nat} {q : Int} {cs H : List Int} (h : q ∉ H) : missL rule room (q :: cs) H = missL rule room cs ((if H.length = room then H.eraseIdx (outI rule cs H) else H) ++ [q]) + 1 := by
  show (if q ∈ H then _ else _) = _
  rw [if_neg h]
/-- at hand, each once, at most so many -/
def Hand (room : Nat) (H : List Int) : Prop := H.Nodup ∧ H.length ≤ room
theorem hitH_mem {rule : Nat} {H : List Int} {q z : Int} (h : q ∈ H) : z ∈ hitH rule H q ↔ z ∈ H := by
  unfold hitH
  split
  · rw [List.mem_append, List.mem_singleton]
    by_cases e : z = q
    · subst e; simp [h]
    · rw [List.mem_erase_of_ne e]
      simp [e]
  · exact Iff.rfl
theorem hitH_hand {rule room : Nat} {H : List Int} {q : Int} (hH : Hand room H) (h : q ∈ H) : Hand room (hitH rule H q) ∧ (hitH rule H q).length = H.length := by
  unfold hitH
  split
  · have hl := List.length_erase_of_mem h
    have hp : 0 < H.length := List.length_pos_of_mem h
    refine ⟨⟨List.nodup_append.2 ⟨hH.1.erase q, by simp, fun a ha b hb e => ?_⟩, ?_⟩, ?_⟩
    · rw [List.mem_singleton.1 hb] at e
      subst e
      exact (List.Nodup.not_mem_erase hH.1) ha
    · rw [List.length_append, hl, List.length_singleton]; have := hH.2; omega
    · rw [List.length_append, hl, List.length_singleton]; omega
  · exact ⟨hH, rfl⟩
theorem mem_eraseIdx {H : List Int} (hn : H.Nodup) {i : Nat} (hi : i < H.length) (z : Int) : z ∈ H.eraseIdx i ↔ z ∈ H ∧ z ≠ H.getD i 0 := by
  have e : H.getD i 0 = H[i] := by simp [List.getD, hi]
  rw [e, List.mem_eraseIdx_iff_getElem]
  constructor
  · rintro ⟨j, hj, hne, rfl⟩
    exact ⟨List.getElem_mem hj, fun e2 => hne ((List.getElem_inj hn).1 e2)⟩
  · rintro ⟨h1, h2⟩
    obtain ⟨j, hj, rfl⟩ := List.getElem_of_mem h1
    exact ⟨j, hj, fun e2 => h2 (by subst e2; rfl), rfl⟩
theorem new_hand {rule room : Nat} {cs H : List Int} {q : Int} (hr : 1 ≤ room) (hH : Hand room H) (h : q ∉ H) : Hand room ((if H.length = room then H.eraseIdx (outI rule cs H) else H) ++ [q]) := by
  split
  · rename_i hf
    have hi := outI_lt (rule := rule) (cs := cs) (H := H) (by omega)
    refine ⟨List.nodup_append.2 ⟨hH.1.eraseIdx _, by simp, fun a ha b hb e => ?_⟩, ?_⟩
    · rw [List.mem_singleton.1 hb] at e
      subst e
      exact h (List.mem_of_mem_eraseIdx ha)
    · rw [List.length_append, List.length_eraseIdx_of_lt hi, List.length_singleton]; omega
  · rename_i hf
    refine ⟨List.nodup_append.2 ⟨hH.1, by simp, fun a ha b hb e => ?_⟩, ?_⟩
    · rw [List.mem_singleton.1 hb] at e
      subst e
      exact h ha
    · rw [List.length_append, List.length_singleton]; have := hH.2; omega
/-- the unlike ones, in the order in which they came -/
def distK : List Int → List Int → List Int
  | [], o => o
  | q :: cs, o => if q ∈ o then distK cs o else distK cs (o ++ [q])
theorem distK_old {q : Int} {cs o : List Int} (h : q ∈ o) : distK (q :: cs) o = distK cs o := by
  show (if q ∈ o then _ else _) = _
  rw [if_pos h]
theorem distK_new {q : Int} {cs o : List Int} (h : q ∉ o) : distK (q :: cs) o = distK cs (o ++ [q]) := by
  show (if q ∈ o then _ else _) = _
  rw [if_neg h]
theorem distK_len : ∀ (c o : List Int), o.length ≤ (distK c o).length
  | [], o => Nat.le_refl _
  | q :: cs, o => by
    by_cases h : q ∈ o
    · rw [distK_old h]; exact distK_len cs o
    · rw [distK_new h]
      have := distK_len cs (o ++ [q])
      rw [List.length_append, List.length_singleton] at this
      omega
end Go.Proofs.Ytncmeocjiinmfan
