/- CONTRACTS: spec.l1In, spec.l1Number, spec.Number, impl.Number. -/
import Derived.Test.YtejaffjmdhnlaahNums
import Derived.Test.YtejaffjmdhnlaahBasis
namespace Go.Proofs.Ytejaffjmdhnlaah
open Go.RowKit

/-- what Number tells -/
def numB (n : Int) : List Int := if 0 ≤ n ∧ n ≤ 1099511627776 then enc n.toNat else []
theorem numB_in (n : Nat) (h : n ≤ 1099511627776) : numB n = enc n := by unfold numB; rw [if_pos (by omega)]; simp
theorem numB_out (n : Int) (h : ¬ (0 ≤ n ∧ n ≤ 1099511627776)) : numB n = [] := by unfold numB; rw [if_neg h]
theorem numB_len (n : Int) : (numB n).length ≤ 6 := by
  unfold numB
  split
  · exact enc_len6 _ (by omega)
  · simp

end Go.Proofs.Ytejaffjmdhnlaah
