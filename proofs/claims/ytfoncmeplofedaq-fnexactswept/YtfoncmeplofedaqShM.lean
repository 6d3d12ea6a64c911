/- SHELVES OVER LISTS: what a right item, a right shelf is; what is synced, crashed, swept, fetched. (A shelf: its round and its items.) -/
import Derived.Test.YtfoncmeplofedaqItm
import Derived.Test.YtfoncmeplofedaqBlobMath
namespace Go.Proofs.Ytfoncmeplofedaq
open Go.RowKit
set_option linter.unusedVariables false
abbrev itemP (p : It) : Prop := (0 ≤ p.2.2.1 ∧ p.2.2.1 ≤ 100000) ∧ (0 ≤ p.2.2.2.1 ∧ p.2.2.2.1 ≤ p.2.2.1) ∧ (p.2.2.2.2 = true → p.2.2.2.1 = p.2.2.1)
def shelfB (r : Int) (l : List It) : Bool := decide (0 ≤ r ∧ r ≤ 100000) && (storeB (itBs l) && l.all fun p => decide (itemP p))
theorem shelfB_iff {r : Int} {l : List It} : shelfB r l = true ↔ (0 ≤ r ∧ r ≤ 100000) ∧ storeB (itBs l) = true ∧ ∀ p ∈ l, itemP p := by
  unfold shelfB
  rw [Bool.and_eq_true, Bool.and_eq_true, decide_eq_true_eq, List.all_eq_true]
  simp only [decide_eq_true_eq]
theorem shelfB_len {r : Int} {l : List It} (h : shelfB r l = true) : l.length ≤ 300 := by
  have := (storeB_iff.1 (shelfB_iff.1 h).2.1).1
  simpa using this
theorem shelfB_size {r : Int} {l : List It} (h : shelfB r l = true) : ∀ p ∈ l, p.2.1.size ≤ 2000 := fun p hp => ((storeB_iff.1 (shelfB_iff.1 h).2.1).2.1 (itB p) (List.mem_map_of_mem hp)).1
theorem shelfB_at {r : Int} {l : List It} {i : Nat} (hi : i < l.length) (h : ¬ itemP (l.getD i it0)) : shelfB r l = false := by
  cases hb : shelfB r l with
  | false => rfl
  | true =>
    have := (shelfB_iff.1 hb).2.2 l[i] (List.getElem_mem hi)
    rw [getD_it hi] at h
    exact absurd this h
theorem shelfB_all {r : Int} {l : List It} (h1 : 0 ≤ r ∧ r ≤ 100000) (h2 : storeB (itBs l) = true) (h : ∀ i, i < l.length → itemP (l.getD i it0)) : shelfB r l = true := by
  refine shelfB_iff.2 ⟨h1, h2, fun p hp => ?_⟩
  obtain ⟨i, hi, rfl⟩ := List.getElem_of_mem hp
  have := h i hi
  rwa [getD_it hi] at this
/-- all are sure -/
def syncP (p : It) : It := (p.1, p.2.1, p.2.2.1, p.2.2.1, true)
abbrev syncL (l : List It) : List It := l.map syncP
theorem sync_step {l : List It} {k : Nat} (h : k < l.length) : (syncL (l.take k) ++ l.drop k).set k (syncP (l.getD k it0)) = syncL (l.take (k + 1)) ++ l.drop (k + 1) := by
  have e2 : (syncL (l.take k)).length = k := by rw [List.length_map, List.length_take]; omega
  rw [List.drop_eq_getElem_cons h, List.set_append_right _ _ (by omega), e2, Nat.sub_self, List.set_cons_zero, List.take_succ_eq_append_getElem h, show syncL (l.take k ++ [l[k]]) = syncL (l.take k) ++ syncL [l[k]] from List.map_append, List.append_assoc, getD_it h]
  rfl
/-- what outlives a crash -/
def lostP (p : It) : Bool := decide (p.2.2.2.1 = 0) && !p.2.2.2.2
def backP (p : It) : It := (p.1, p.2.1, p.2.2.2.1, p.2.2.2.1, true)
def crashL (l : List It) : List It := (l.filter fun p => !lostP p).map backP
theorem crash_snoc (l : List It) (k : Nat) (h : k < l.length) : crashL (l.take (k + 1)) = crashL (l.take k) ++ (if lostP (l.getD k it0) = true then [] else [backP (l.getD k it0)]) := by
  unfold crashL
  rw [List.take_succ_eq_append_getElem h, List.filter_append, List.map_append, getD_it h]
  congr 1
  cases hl : lostP l[k] <;> simp [hl]
theorem crash_len (l : List It) : (crashL l).length ≤ l.length := by unfold crashL; rw [List.length_map]; exact List.length_filter_le _ _
/-- what a sweep of round r with these marks leaves -/
def stayP (r : Int) (ms : List Int) (p : It) : Bool := decide (r ≤ p.2.2.1) || ms.contains p.1
def sweptL (r : Int) (ms : List Int) (l : List It) : List It := l.filter (stayP r ms)
theorem swept_snoc (r : Int) (ms : List Int) (l : List It) (k : Nat) (h : k < l.length) : sweptL r ms (l.take (k + 1)) = sweptL r ms (l.take k) ++ (if stayP r ms (l.getD k it0) = true then [l.getD k it0] else []) := by
  unfold sweptL
  rw [List.take_succ_eq_append_getElem h, List.filter_append, getD_it h]
  congr 1
  cases hl : stayP r ms l[k] <;> simp [hl]
theorem swept_len (r : Int) (ms : List Int) (l : List It) : (sweptL r ms l).length ≤ l.length := List.length_filter_le _ _
/-- the five answers, a shelf as its round and its items -/
def syncedT (r : Int) (l : List It) : Int × List It := if shelfB r l = true then (r, syncL l) else (0, [])
def crashedT (r : Int) (l : List It) : Int × List It := if shelfB r l = true then (r, crashL l) else (0, [])
def sweptT (r : Int) (l : List It) (round : Int) (ms : List Int) : (Int × List It) × Int :=
  if shelfB r l = true then (if round < r ∨ 100000 < round then ((r, l), -1) else ((round, sweptL round ms l), (l.length : Int) - ((sweptL round ms l).length : Int))) else ((0, []), -1)
def fetchedT (r : Int) (l : List It) (d : Int) : Option ByteArray := if shelfB r l = true then getT (itBs l) d else none
end Go.Proofs.Ytfoncmeplofedaq
