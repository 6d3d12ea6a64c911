/- CONTRACTS: the numbers of all windows: the specification's Rolls. The mathematics ahead of it speaks of no program. -/
import Derived.Test.YtiflpnmkclcimabRoll
namespace Go.Proofs.Ytiflpnmkclcimab
open Go.RowKit

/-- the number of the k-th window of n bytes -/
def wroll (s : ByteArray) (n k : Nat) : Int := rollL (((byts s).drop k).take n)
/-- those of the first k windows -/
def rollsN (s : ByteArray) (n k : Nat) : List Int := (List.range k).map (wroll s n)
/-- what Rolls tells -/
def rollsT (s : ByteArray) (n : Int) : List Int := if (1 ≤ n ∧ n ≤ 16) ∧ s.size ≤ 20000 then rollsN s n.toNat (s.size + 1 - n.toNat) else []

theorem byts_extract (s : ByteArray) (a b : Nat) : byts (s.extract a b) = ((byts s).drop a).take (b - a) := by
  unfold byts
  rw [ByteArray.data_extract, Array.toList_extract, List.extract_eq_take_drop, List.map_take, List.map_drop]
theorem wroll_eq (s : ByteArray) (n k : Nat) : roll (s.extract k (k + n)) = wroll s n k := by
  unfold roll wroll
  rw [byts_extract, Nat.add_sub_cancel_left]
theorem rollsN_succ (s : ByteArray) (n k : Nat) : rollsN s n (k + 1) = rollsN s n k ++ [wroll s n k] := by simp [rollsN, List.range_succ]
theorem rollsN_len (s : ByteArray) (n k : Nat) : (rollsN s n k).length = k := by simp [rollsN]
theorem rollsN_get (s : ByteArray) (n k j : Nat) (h : j < k) : (rollsN s n k).getD j 0 = wroll s n j := by simp [rollsN, List.getD, h]
theorem wroll_in (s : ByteArray) (n k : Nat) : 0 ≤ wroll s n k ∧ wroll s n k ≤ 65520 := rollL_in _
theorem rollsT_len (s : ByteArray) (n : Int) : (rollsT s n).length ≤ 20000 := by
  unfold rollsT
  split
  · rw [rollsN_len]; omega
  · simp


end Go.Proofs.Ytiflpnmkclcimab
