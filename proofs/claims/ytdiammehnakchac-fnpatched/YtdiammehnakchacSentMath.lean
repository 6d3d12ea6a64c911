/- HOW MANY BYTES OF TEXT a row of Bits has. It speaks of no function of the program. -/
import Derived.Test.YtdiammehnakchacBlobs
namespace Go.Proofs.Ytdiammehnakchac
set_option linter.unusedVariables false
/-- what Sent tells -/
def sentT (l : List Bl) : Nat := (l.map fun p => p.2.size).sum
theorem sentT_app (l m : List Bl) : sentT (l ++ m) = sentT l + sentT m := by unfold sentT; rw [List.map_append, List.sum_append_nat]
theorem sentT_cons (p : Bl) (l : List Bl) : sentT (p :: l) = p.2.size + sentT l := by unfold sentT; simp
theorem sentT_take {l : List Bl} {k : Nat} (h : k < l.length) : sentT (l.take (k + 1)) = sentT (l.take k) + (l.getD k bl0).2.size := by
  rw [List.take_succ_eq_append_getElem h, sentT_app]
  have e : l.getD k bl0 = l[k] := by simp [List.getD, h]
  rw [e]
  simp [sentT]
theorem sentT_le {l : List Bl} {B : Nat} (h : ∀ p ∈ l, p.2.size ≤ B) : sentT l ≤ l.length * B := by
  induction l with
  | nil => exact Nat.zero_le _
  | cons p r ih =>
    rw [sentT_cons, List.length_cons, Nat.add_mul]
    have h1 := h p (by simp)
    have h2 := ih (fun q hq => h q (by simp [hq]))
    omega
end Go.Proofs.Ytdiammehnakchac
