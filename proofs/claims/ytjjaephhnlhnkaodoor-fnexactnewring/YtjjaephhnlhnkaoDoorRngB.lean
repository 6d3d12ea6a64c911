/- CONTRACTS: the program's RingOk; slices.Grow of nothing and slices.Concat of two, at dots. -/
import Derived.Test.YtjjaephhnlhnkaoDoorNDtXw
import Derived.Test.YtjjaephhnlhnkaoDoorDotY
import Derived.Lib.AppendZeros
namespace Go.Proofs.YtjjaephhnlhnkaoDoor
open Go.RowKit
set_option linter.unusedVariables false
abbrev NumD (l : List Dt) : Nat → Int := fun j => (l.getD j dt0).1
theorem ring_parts {l : List Dt} (h1 : 1 ≤ l.length) (h2 : l.length ≤ 128) : decide (RingP l) = (riseN (fun j => (l.getD j dt0).1) l.length && !(l.any wrongD)) := by
  by_cases hr : RiseN (NumD l) l.length
  · rw [riseN_iff.2 hr, Bool.true_and]
    cases ha : l.any wrongD with
    | true =>
      obtain ⟨p, hp, hw⟩ := List.any_eq_true.1 ha
      refine decide_eq_false fun h => ?_
      have h9 := wrongD_no.2 (h.2.1 p hp)
      rw [h9] at hw; cases hw
    | false =>
      refine decide_eq_true ⟨⟨h1, h2⟩, fun p hp => ?_, List.pairwise_iff_getElem.2 fun i j hi hj hij => ?_⟩
      · have h9 := List.any_eq_false.1 ha p hp
        exact wrongD_no.1 (by simpa using h9)
      · have h9 := riseN_lt hr hij hj
        unfold NumD at h9
        rwa [getD_dt hi, getD_dt hj] at h9
  · have e : riseN (fun j => (l.getD j dt0).1) l.length = false := by
      cases h9 : riseN (fun j => (l.getD j dt0).1) l.length with
      | false => rfl
      | true => exact absurd (riseN_iff.1 h9) hr
    rw [e, Bool.false_and]
    refine decide_eq_false fun h => hr fun i hi h0 => ?_
    have h9 := List.pairwise_iff_getElem.1 h.2.2 (i - 1) i (by omega) hi (by omega)
    unfold NumD
    rwa [getD_dt hi, getD_dt (show i - 1 < l.length by omega)]
theorem ring_rise {l : List Dt} (h : RingP l) : RiseN (fun j => (l.getD j dt0).1) l.length := fun i hi h0 => by
  have h9 := List.pairwise_iff_getElem.1 h.2.2 (i - 1) i (by omega) hi (by omega)
  show (l.getD (i - 1) dt0).1 < (l.getD i dt0).1
  rwa [getD_dt hi, getD_dt (show i - 1 < l.length by omega)]
end Go.Proofs.YtjjaephhnlhnkaoDoor
