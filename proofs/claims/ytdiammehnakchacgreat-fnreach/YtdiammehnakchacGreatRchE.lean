/- What Reach tells, as an ending. It speaks of no function of the program. -/
import Derived.Test.YtdiammehnakchacGreatRchMath
import Derived.Test.YtdiammehnakchacGreatStoP
namespace Go.Proofs.YtdiammehnakchacGreat
open Go.RowKit
def ReachEnd (R : List Int → Prop) (w : World) (e : Ending) (w' : World) : Prop := ∃ v out, e = .returned v ∧ R out ∧ w'.ownsRow w.heap.size 2 1 v out.length (cellsInt64S out) ∧ Below w.heap.size w w'
/-- what Reach tells -/
def ReachIs (l : List Bl) (roots R : List Int) : Prop := (storeB l = false ∧ R = []) ∨ (storeB l = true ∧ IsReach (stO l) roots R)
theorem reachIs_same {l : List Bl} {roots R Q : List Int} (h : ReachIs l roots R) (k : ReachIs l roots Q) : R = Q := by
  rcases h with ⟨h0, rfl⟩ | ⟨h0, h1⟩ <;> rcases k with ⟨k0, rfl⟩ | ⟨k0, k1⟩
  · rfl
  · rw [h0] at k0; cases k0
  · rw [h0] at k0; cases k0
  · exact reach_same h1 k1
theorem reachIs_len {l : List Bl} {roots R : List Int} (h : ReachIs l roots R) (hr : roots.length ≤ 1048576) : R.length ≤ 1049776 := by
  rcases h with ⟨_, rfl⟩ | ⟨h0, h1⟩
  · simp
  · have hl := (storeB_iff.1 h0).1
    have h2 := nodup_len (rise_nodup h1.1) (fun d hd => rch_univ ((h1.2 d).1 hd))
    have h3 := univ_len l roots
    omega
end Go.Proofs.YtdiammehnakchacGreat
