/- ON CHUNKS: glued they are the text; how long each is, and where it ends. It speaks of no program. -/
import Derived.Test.YtndecefcnalgdaaChunks
import Derived.Test.YtndecefcnalgdaaGlued
import Derived.Test.YtndecefcnalgdaaAlikeMath
namespace Go.Proofs.Ytndecefcnalgdaa
open Go.RowKit

theorem catL_snoc (xs : List ByteArray) (x : ByteArray) : catL (xs ++ [x]) = catL xs ++ byts x := by simp [catL]
theorem catL_pieces (s : ByteArray) {W : Nat} {P : Int} {L M : Nat} (hr : okRule W P L M) : ∀ k, k ≤ (cutsN s W P L M).length → catL (piecesN s (cutsN s W P L M) k) = (byts s).take ((0 :: cutsN s W P L M).getD k 0) := by
  intro k
  induction k with
  | zero => intro _; simp [piecesN, catL]
  | succ k ih =>
    intro hk
    obtain ⟨a, ha, ha1, _, ha3⟩ := cut_at s hr k (by omega)
    obtain ⟨h1, h2, h3⟩ := ha3 (by omega)
    rw [piecesN_succ, catL_snoc, ih (by omega), ← ha, byts_extract]
    have e : (0 :: cutsN s W P L M).getD (k + 1) 0 = (cutsN s W P L M).getD k 0 := by simp
    rw [e]
    have h4 : (cutsN s W P L M).getD k 0 = a + ((cutsN s W P L M).getD k 0 - a) := by omega
    conv => rhs; rw [h4, List.take_add]
theorem glued_chunks (s : ByteArray) {W : Nat} {P : Int} {L M : Nat} (hr : okRule W P L M) (hs : s.size ≤ 20000) : gluedB (chunksI s W P L M) = s := by
  have hO : Okn (nextL W P L M) := okn_next (by omega) hr.2.2.2.1
  have h := catL_pieces s hr _ (Nat.le_refl _)
  have hen := cuts_end hO (byts s) 0 (Nat.zero_le _)
  have e : (0 :: cutsN s W P L M).getD (cutsN s W P L M).length 0 = (byts s).length := hen
  rw [e, List.take_of_length_le (Nat.le_refl _)] at h
  unfold gluedB chunksI
  rw [h, if_pos (by rw [byts_len]; exact hs), asB_self]
/-- what is said of each chunk -/
theorem chunk_at (s : ByteArray) {W : Nat} {P : Int} {L M : Nat} (hr : okRule W P L M) (k : Nat) (hk : k < (cutsN s W P L M).length) :
    ∃ a n : Nat, a = (0 :: cutsN s W P L M).getD k 0 ∧ a + n = (0 :: cutsN s W P L M).getD (k + 1) 0 ∧ (cutsI s W P L M).getD k 0 = ((a + n : Nat) : Int) ∧ ((chunksI s W P L M).getD k ByteArray.empty).size = n ∧ a + n ≤ s.size ∧ 1 ≤ n ∧ n ≤ M ∧
      (k + 1 < (cutsN s W P L M).length → L ≤ n) ∧ (k + 1 < (cutsN s W P L M).length → n < M → roll (((chunksI s W P L M).getD k ByteArray.empty).extract (n - W) n) % P = 0) := by
  have hO : Okn (nextL W P L M) := okn_next (by omega) hr.2.2.2.1
  have hl := byts_len s
  obtain ⟨a, ha, ha1, _, ha3⟩ := cut_at s hr k (by omega)
  obtain ⟨h1, h2, h3⟩ := ha3 hk
  have e : (0 :: cutsN s W P L M).getD (k + 1) 0 = (cutsN s W P L M).getD k 0 := by simp
  have hg := cutsI_get s W P L M k hk
  have hp : (chunksI s W P L M).getD k ByteArray.empty = s.extract a ((cutsN s W P L M).getD k 0) := by
    unfold chunksI
    rw [piecesN_get _ _ _ _ hk, ← ha]
  have hb : byts (s.extract a s.size) = (byts s).drop a := by
    rw [byts_extract, List.take_of_length_le (by rw [List.length_drop, hl]; exact Nat.le_refl _)]
  rw [hb] at h1
  have hle := nextL_le W P L M ((byts s).drop a)
  have hnx : k + 1 < (cutsN s W P L M).length → nextL W P L M ((byts s).drop a) < ((byts s).drop a).length := fun h => by
    obtain ⟨a2, hb1, _, hb2, _⟩ := cut_at s hr (k + 1) (by omega)
    have h5 := hb2.2 h
    rw [hb1, e] at h5
    rw [List.length_drop, hl]
    omega
  generalize hn : nextL W P L M ((byts s).drop a) = n at *
  have hM := hr.2.2.2
  refine ⟨a, n, ha, by rw [e, h1], by rw [hg, h1], by rw [hp, ByteArray.size_extract]; omega, by omega, by omega, hle.2, fun h => ?_, fun h hm => ?_⟩
  · have := nextL_inner (W := W) (P := P) (bs := (byts s).drop a) hM.1 (by rw [hn]; exact hnx h)
    omega
  · have hh := nextL_short (W := W) (P := P) (L := L) (bs := (byts s).drop a) (by rw [hn]; exact hnx h) (by rw [hn]; exact hm)
    have hL := nextL_inner (W := W) (P := P) (bs := (byts s).drop a) hM.1 (by rw [hn]; exact hnx h)
    rw [hn] at hh hL
    unfold hit at hh
    unfold roll
    rw [hp, h1, byts_extract, byts_extract, show a + n - a = n by omega, List.drop_take, List.take_take, show min (n - (n - W)) (n - (n - W)) = W by omega]
    exact hh

end Go.Proofs.Ytndecefcnalgdaa
