/- What the laws of shelves want besides: sizes of a row of texts that fits; how long the answers are. -/
import Derived.Test.YtfoncmeplofedaqGreatDoorBuna
import Derived.Test.YtfoncmeplofedaqGreatDoorStoP
namespace Go.Proofs.YtfoncmeplofedaqGreatDoor
open Go.RowKit
set_option linter.unusedVariables false
theorem szS_small {xs : List ByteArray} (h : 0 ≤ szS xs 1048576) : xs.length ≤ 1048576 ∧ ∀ s ∈ xs, s.size ≤ 1048576 := by
  unfold szS at h
  split at h
  · omega
  · rename_i h0
    obtain ⟨_, h2⟩ := szF_nonneg xs _ h (by omega)
    exact ⟨by omega, fun s hs => by have := h2 s hs; omega⟩
theorem syncedT_len (r : Int) (l : List It) (h : l.length ≤ 1048576) : (syncedT r l).2.length ≤ 1048576 := by
  unfold syncedT
  split
  · rw [List.length_map]; exact h
  · exact Nat.zero_le _
theorem crashedT_len (r : Int) (l : List It) (h : l.length ≤ 1048576) : (crashedT r l).2.length ≤ 1048576 := by
  unfold crashedT
  split
  · exact Nat.le_trans (crash_len l) h
  · exact Nat.zero_le _
theorem sweptT_len (r : Int) (l : List It) (n : Int) (ms : List Int) (h : l.length ≤ 1048576) : (sweptT r l n ms).1.2.length ≤ 1048576 := by
  unfold sweptT
  split
  · split
    · exact h
    · exact Nat.le_trans (swept_len n ms l) h
  · exact Nat.zero_le _
theorem sweptT_le (r : Int) (l : List It) (n : Int) (ms : List Int) : (sweptT r l n ms).1.2.length ≤ l.length := by
  unfold sweptT
  split
  · split
    · exact Nat.le_refl _
    · exact swept_len n ms l
  · exact Nat.zero_le _
theorem sweptT_rng (r : Int) (l : List It) (n : Int) (ms : List Int) : -1 ≤ (sweptT r l n ms).2 ∧ (sweptT r l n ms).2 ≤ (l.length : Int) := by
  have := swept_len n ms l
  unfold sweptT
  split
  · split
    · exact ⟨by simp, by simp⟩
    · simp only
      omega
  · exact ⟨by simp, by simp⟩
theorem getV_eq (o : Option ByteArray) : getV o = .tuple #[.string (o.getD ⟨#[]⟩), .bool o.isSome] := by cases o <;> rfl
end Go.Proofs.YtfoncmeplofedaqGreatDoor
