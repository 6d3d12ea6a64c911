/- CONTRACTS: the specification's StoreOk, l7Find, l1Has, Get. -/
import Derived.Test.YtfoncmeplofedaeBlobMath
import Derived.Test.YtfoncmeplofedaeBlobS
namespace Go.Proofs.Ytfoncmeplofedae
open Go.RowKit
set_option linter.unusedVariables false
theorem ret_boolS {a b : Bool} (h : a = b) : Ending.returned (.bool a) = .returned (.bool b) := by rw [h]
/-- where the first of a digest is -/
def idxB (l : List Bl) (d : Int) : Option Nat := l.findIdx? fun p => p.1 == d
theorem idxB_is {l : List Bl} {d : Int} {k : Nat} (hk : k < l.length) (h : (l.getD k bl0).1 = d) (hn : ∀ j, j < k → (l.getD j bl0).1 ≠ d) : idxB l d = some k ∧ findB l d = some (l.getD k bl0) := by
  unfold idxB findB
  constructor
  · rw [List.findIdx?_eq_some_iff_getElem]
    refine ⟨hk, by rw [← getD_at hk]; exact beq_iff_eq.2 h, fun j hj => ?_⟩
    have := hn j hj
    rw [getD_at (by omega)] at this
    simp [this]
  · rw [List.find?_eq_some_iff_getElem]
    refine ⟨beq_iff_eq.2 h, k, hk, by rw [getD_at hk], fun j hj => ?_⟩
    have := hn j hj
    rw [getD_at (by omega)] at this
    simp [this]
theorem idxB_no {l : List Bl} {d : Int} (hn : ∀ j, j < l.length → (l.getD j bl0).1 ≠ d) : idxB l d = none ∧ findB l d = none := by
  have h : ∀ p ∈ l, p.1 ≠ d := fun p hp => by
    obtain ⟨j, hj, rfl⟩ := List.getElem_of_mem hp
    have := hn j hj
    rwa [getD_at hj] at this
  refine ⟨?_, findB_none.2 h⟩
  unfold idxB
  rw [List.findIdx?_eq_none_iff]
  exact fun p hp => by simp [h p hp]
def findI (l : List Bl) (d : Int) : Int := match idxB l d with
  | some k => (k : Int)
  | none => -1
end Go.Proofs.Ytfoncmeplofedae
