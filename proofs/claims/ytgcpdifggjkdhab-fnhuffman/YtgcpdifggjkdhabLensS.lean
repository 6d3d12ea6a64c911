/- CONTRACTS: the specification's Lengths. -/
import Derived.Test.YtgcpdifggjkdhabShort
import Derived.Test.YtgcpdifggjkdhabLenMath
import Derived.Laws.MakeOwn
import Derived.OneCell
import Derived.OwnWalk
namespace Go.Proofs.Ytgcpdifggjkdhab
open Go.RowKit
set_option linter.unusedVariables false

def cN (c : List Int) : Nat → Nat := fun i => (c.getD i 0).toNat
/-- a row of numbers by a function -/
def rowF (f : Nat → Nat) (n : Nat) : List Int := (List.range n).map fun i => ((f i : Nat) : Int)
theorem rowF_len (f : Nat → Nat) (n : Nat) : (rowF f n).length = n := by simp [rowF]
theorem rowF_get (f : Nat → Nat) {n i : Nat} (h : i < n) : (rowF f n).getD i 0 = ((f i : Nat) : Int) := by
  unfold rowF
  rw [List.getD, List.getElem?_map, List.getElem?_range h]
  rfl
def setF (f : Nat → Nat) (i v : Nat) : Nat → Nat := fun j => if j = i then v else f j
theorem rowF_set (f : Nat → Nat) (n i v : Nat) : (cellsInt64S (rowF f n)).set i (.int .i64 (v : Int)) = cellsInt64S (rowF (setF f i v) n) := by
  apply List.ext_getElem
  · simp [rowF]
  · intro j h1 h2
    rw [List.getElem_set]
    simp only [cellsInt64S, rowF, List.getElem_map, List.getElem_range, setF]
    by_cases e : i = j
    · subst e; simp
    · rw [if_neg e, if_neg (fun h => e h.symm)]
/-- what Lengths tells -/
def lengthsI (c : List Int) : List Int := rowF (Huff.lenD (cN c) c.length) c.length
def lengthsT (c : List Int) : List Int := if allIn c 100000 = true then lengthsI c else []
theorem rowF_cN {c : List Int} (h : ∀ i, i < c.length → 0 ≤ c.getD i 0) : rowF (cN c) c.length = c := by
  apply List.ext_getElem
  · simp [rowF]
  · intro j h1 h2
    have := h j h2
    simp only [rowF, List.getElem_map, List.getElem_range, cN]
    rw [List.getD, List.getElem?_eq_getElem h2] at this
    have e : c.getD j 0 = c[j] := by rw [List.getD, List.getElem?_eq_getElem h2]; rfl
    rw [e]
    simp at this
    omega
theorem rowF_snoc (f : Nat → Nat) (k : Nat) : rowF f (k + 1) = rowF f k ++ [((f k : Nat) : Int)] := by simp [rowF, List.range_succ]

end Go.Proofs.Ytgcpdifggjkdhab
