/- MARKS OF A ROW OF BITS FROM 1 ON; how long a store can be. -/
import Derived.Test.YtdiammehnakchamBitM
namespace Go.Proofs.Ytdiammehnakcham
open Go.RowKit
theorem markBitS_one (base : Nat) (v : Value) (xs : List Bl) (w : World) (hown : w.ownsRow base 81 2 v xs.length (blC xs)) (hl : xs.length ≤ 1048576) :
    Calls Try.prog 35 #[v, .int .i64 1] w fun e w' => e = .returned (.int .i64 ((1 + 2 * xs.length : Nat) : Int)) ∧ w'.ownsRow base 81 2 v xs.length (blC (marksBi 1 xs.length)) ∧ w.grownBy w' v.ownBlock :=
  markBitS_any base v 1 xs w hown hl (by omega) (by omega)
theorem heldBitS_one (v : Value) (n : Nat) (w : World) (hrd : RdB w v (marksBi 1 n)) (hl : n ≤ 1048576) :
    Calls Try.prog 36 #[v, .int .i64 1] w fun e w' => e = .returned (.int .i64 ((1 + 2 * n : Nat) : Int)) ∧ Below w.heap.size w w' :=
  heldBitS_any v 1 n w hrd hl (by omega) (by omega)
theorem rdB_own_marks {w : World} {base n : Nat} {e : TypeId} {v : Value} (h : w.ownsRow base e 2 v n (blC (marksBi 1 n))) : RdB w v (marksBi 1 n) := rdB_owns (l := marksBi 1 n) (by rw [marksBi_len]; exact h)
end Go.Proofs.Ytdiammehnakcham
