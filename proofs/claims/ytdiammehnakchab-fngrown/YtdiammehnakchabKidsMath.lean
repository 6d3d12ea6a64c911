/- WHAT WAS GROWN, over lists: each branch's children stand ahead of it, the last one has the root; a store of all of it tells the chunks, and without the root nothing. It speaks of no function of the program. -/
import Derived.Test.YtdiammehnakchabToldMath
import Derived.Test.YtdiammehnakchabStoreMem
import Derived.Test.YtdiammehnakchabTreeG
namespace Go.Proofs.Ytdiammehnakchab
open Go.RowKit
set_option linter.unusedVariables false
theorem up_kids {A : List ByteArray} {x : ByteArray} (hx : x ∈ upT (dgs A)) : ∃ es, okBr es ∧ x = brT es ∧ ∀ d ∈ es, ∃ y ∈ A, d = digest y := by
  unfold upT at hx
  obtain ⟨p, hp, rfl⟩ := List.mem_map.1 hx
  obtain ⟨h1, h4, hm⟩ := by4_mem _ _ _ hp
  refine ⟨p, ⟨h1, h4, fun d hd => dgs_ok d (hm d hd)⟩, rfl, fun d hd => ?_⟩
  obtain ⟨y, hy, e⟩ := List.mem_map.1 (hm d hd)
  exact ⟨y, hy, e.symm⟩
theorem above_kids : ∀ (n : Nat) (A P : List ByteArray), (∀ y ∈ A, y ∈ P) → ∀ (k : Nat) (hk : k < (above n A).1.length), ∃ es, okBr es ∧ (above n A).1[k] = brT es ∧ ∀ d ∈ es, ∃ y ∈ P ++ (above n A).1.take k, d = digest y
  | 0, A, P, hP, k, hk => by exact absurd hk (Nat.not_lt_zero _)
  | n + 1, A, P, hP, k, hk => by
    by_cases h1 : A.length ≤ 1
    · have e : (above (n + 1) A).1 = [] := by rw [above_low n h1]
      rw [e] at hk
      exact absurd hk (Nat.not_lt_zero _)
    · have e : (above (n + 1) A).1 = upT (dgs A) ++ (above n (upT (dgs A))).1 := by rw [above_high n (by omega)]
      have key : ∀ (L : List ByteArray) (hL : L = upT (dgs A) ++ (above n (upT (dgs A))).1) (hk : k < L.length), ∃ es, okBr es ∧ L[k] = brT es ∧ ∀ d ∈ es, ∃ y ∈ P ++ L.take k, d = digest y := by
        intro L hL hk
        subst hL
        by_cases hu : k < (upT (dgs A)).length
        · rw [List.getElem_append_left hu]
          obtain ⟨es, e1, e2, e3⟩ := up_kids (List.getElem_mem hu)
          refine ⟨es, e1, e2, fun d hd => ?_⟩
          obtain ⟨y, hy, ey⟩ := e3 d hd
          exact ⟨y, List.mem_append_left _ (hP y hy), ey⟩
        · rw [List.getElem_append_right (by omega)]
          obtain ⟨es, e1, e2, e3⟩ := above_kids n (upT (dgs A)) (P ++ upT (dgs A)) (fun y hy => List.mem_append_right _ hy) (k - (upT (dgs A)).length) (by rw [List.length_append] at hk; omega)
          refine ⟨es, e1, e2, fun d hd => ?_⟩
          obtain ⟨y, hy, ey⟩ := e3 d hd
          refine ⟨y, ?_, ey⟩
          rw [List.take_append, List.take_of_length_le (by omega), ← List.append_assoc]
          exact hy
      obtain ⟨es, e1, e2, e3⟩ := key _ e hk
      exact ⟨es, e1, e2, e3⟩
theorem above_last : ∀ (n : Nat) (A : List ByteArray), A ≠ [] → A.length ≤ 4 ^ n → (above (n + 1) A).2 = digest ((A ++ (above (n + 1) A).1).getLastD ByteArray.empty)
  | 0, A, hA, hl => by
    have h1 : A.length ≤ 1 := by simpa using hl
    rw [above_low 0 h1]
    cases A with
    | nil => exact absurd rfl hA
    | cons a r =>
      cases r with
      | nil => rfl
      | cons b t => simp at h1
  | n + 1, A, hA, hl => by
    by_cases h1 : A.length ≤ 1
    · rw [above_low (n + 1) h1]
      cases A with
      | nil => exact absurd rfl hA
      | cons a r =>
        cases r with
        | nil => rfl
        | cons b t => simp at h1
    · rw [above_high (n + 1) (by omega)]
      have hul := upT_len (dgs A)
      have hdl : (dgs A).length = A.length := by simp [dgs]
      have hne : upT (dgs A) ≠ [] := fun e => by
        rw [e] at hul
        simp at hul
        omega
      rw [Nat.pow_succ] at hl
      have ih := above_last n (upT (dgs A)) hne (by omega)
      show (above (n + 1) (upT (dgs A))).2 = _
      rw [ih]
      congr 1
      show _ = (A ++ (upT (dgs A) ++ (above (n + 1) (upT (dgs A))).1)).getLastD ByteArray.empty
      have hLn : upT (dgs A) ++ (above (n + 1) (upT (dgs A))).1 ≠ [] := fun e => hne (List.append_eq_nil_iff.1 e).1
      generalize upT (dgs A) ++ (above (n + 1) (upT (dgs A))).1 = L at hLn ⊢
      rw [List.getLastD_eq_getLast?, List.getLastD_eq_getLast?, List.getLast?_append, List.getLast?_eq_some_getLast hLn]
      rfl
/-- each text of a tree can be told from: a branch's children stand ahead of it -/
theorem grown_kids {cs : List ByteArray} {k : Nat} (hk : k < (grownT cs).1.length) : ∃ l, childT ((grownT cs).1.getD k ByteArray.empty) = some l ∧ l.length ≤ 4 ∧ ∀ d ∈ l, ∃ y ∈ (grownT cs).1.take k, d = digest y := by
  unfold grownT at hk ⊢
  split at hk
  · rename_i h
    rw [if_pos h]
    simp only at hk ⊢
    by_cases hu : k < (cs.map leafT).length
    · have e : (cs.map leafT ++ (above 5 (cs.map leafT)).1).getD k ByteArray.empty = leafT (cs[k]'(by simpa using hu)) := by
        rw [List.getD, List.getElem?_append_left hu, List.getElem?_eq_getElem hu]
        simp
      rw [e]
      exact ⟨[], childT_leaf _, Nat.zero_le _, fun d hd => by cases hd⟩
    · have hk2 : k - (cs.map leafT).length < (above 5 (cs.map leafT)).1.length := by rw [List.length_append] at hk; omega
      have e : (cs.map leafT ++ (above 5 (cs.map leafT)).1).getD k ByteArray.empty = (above 5 (cs.map leafT)).1[k - (cs.map leafT).length] := by
        rw [List.getD, List.getElem?_append_right (by omega), List.getElem?_eq_getElem hk2]
        rfl
      obtain ⟨es, e1, e2, e3⟩ := above_kids 5 (cs.map leafT) (cs.map leafT) (fun y hy => hy) _ hk2
      rw [e, e2]
      refine ⟨es, childT_br e1, e1.2.1, fun d hd => ?_⟩
      obtain ⟨y, hy, ey⟩ := e3 d hd
      refine ⟨y, ?_, ey⟩
      rw [List.take_append, List.take_of_length_le (by omega)]
      exact hy
  · exact absurd hk (Nat.not_lt_zero _)
/-- the last one has the root -/
theorem grown_last {cs : List ByteArray} (h : 0 < (grownT cs).1.length) : digest ((grownT cs).1.getD ((grownT cs).1.length - 1) ByteArray.empty) = (grownT cs).2 := by
  unfold grownT at h ⊢
  split at h
  · rename_i k
    rw [if_pos k]
    simp only at h ⊢
    rw [above_last 4 (cs.map leafT) (fun e => by have := congrArg List.length e; simp at this; rw [this] at k; exact absurd k.1 (by simp)) (by rw [List.length_map]; have : 4 ^ 4 = 256 := rfl; omega)]
    rw [List.getLastD_eq_getLast?, List.getLast?_eq_getElem?]
    rfl
  · exact absurd h (Nat.not_lt_zero _)
theorem grown_2000 {cs : List ByteArray} {s : ByteArray} (h : s ∈ (grownT cs).1) : s.size ≤ 2000 := by
  unfold grownT at h
  split at h
  · rename_i k
    rcases List.mem_append.1 h with h | h
    · obtain ⟨c, hc, rfl⟩ := List.mem_map.1 h
      have h1 := k.2.2 c hc
      have h2 : (leafT c).size = c.size + 1 := by unfold leafT leafL; rw [asB_size, List.length_cons, byts_len]
      omega
    · obtain ⟨i, hi, rfl⟩ := List.getElem_of_mem h
      obtain ⟨es, e1, e2, _⟩ := above_kids 5 (cs.map leafT) (cs.map leafT) (fun y hy => hy) i hi
      rw [e2]
      have := brT_31 (ds := es)
      omega
  · cases h
/-- nothing is missing -/
theorem miss_nil {l : List Bl} {ds : List Int} (h : ∀ d ∈ ds, ∃ p, findB l d = some p) : missT l ds = [] := by
  have go : ∀ (ds acc : List Int), (∀ d ∈ ds, ∃ p, findB l d = some p) → missF l ds acc = acc := by
    intro ds
    induction ds with
    | nil => intro acc _; rfl
    | cons d r ih =>
      intro acc h
      obtain ⟨p, hp⟩ := h d (by simp)
      unfold missF
      rw [if_neg (by rw [hp]; simp)]
      exact ih acc (fun x hx => h x (by simp [hx]))
  unfold missT
  split
  · exact go ds [] h
  · rfl
/-- a store of a whole tree tells its chunks -/
theorem told_store {cs : List ByteArray} {A : List Bl} (hg : (grownT cs).1 ≠ []) (hA : MemP A (grownT cs).1) : toldT A (grownT cs).2 = some cs := by
  unfold toldT
  rw [if_pos hA.1]
  refine told_grown hg fun x hx => ?_
  show (findB A (digest x)).map (·.2) = some x
  rw [mem_find hA hx]
  rfl
/-- without the root nothing is told -/
theorem told_less {A : List Bl} {r : Int} (hA : storeB A = true) : toldT (dropT A [r]) r = none := by
  unfold toldT
  rw [if_pos (drop_sto hA)]
  refine told_none 6 [] ?_
  have h := drop_none (l := A) (ds := [r]) (d := r) hA (by simp)
  unfold getT at h
  rw [if_pos (drop_sto hA)] at h
  exact h
end Go.Proofs.Ytdiammehnakchab
