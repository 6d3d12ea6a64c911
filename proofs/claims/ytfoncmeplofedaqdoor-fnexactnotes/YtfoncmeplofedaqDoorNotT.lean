/- NOTES AND DISKS OVER LISTS: the notes of a disk up to a place, and on. -/
import Derived.Test.YtfoncmeplofedaqDoorJouM
namespace Go.Proofs.YtfoncmeplofedaqDoor
open Go.RowKit
set_option linter.unusedVariables false
theorem notesF_fuel : ∀ (f g : Nat) (d : ByteArray) (k : Nat), d.size < k + f → d.size < k + g → k ≤ d.size → notesF f d k = notesF g d k
  | 0, g, d, k, hf, hg, hk => by omega
  | f + 1, 0, d, k, hf, hg, hk => by omega
  | f + 1, g + 1, d, k, hf, hg, hk => by
    cases h : noteT (d.extract k d.size) with
    | none => rw [notesF_end h, notesF_end h]
    | some q =>
      obtain ⟨p, n⟩ := q
      obtain ⟨hn, hle, _⟩ := noteT_pos h
      have hex : (d.extract k d.size).size = d.size - k := by rw [ByteArray.size_extract]; omega
      rw [hex] at hle
      rw [notesF_hit h, notesF_hit h, notesF_fuel f g d (k + n) (by omega) (by omega) (by omega)]
/-- the notes so far are L, and the others begin at k -/
def NotesTo (d : ByteArray) (L : List Nt) (k : Nat) : Prop := ∀ f, d.size < k + f → notesT d = (L ++ (notesF f d k).1, (notesF f d k).2)
theorem notesTo_start (d : ByteArray) : NotesTo d [] 0 := fun f hf => by
  unfold notesT
  rw [notesF_fuel (d.size + 1) f d 0 (by omega) hf (Nat.zero_le _), List.nil_append]
theorem hit_le {d : ByteArray} {k n : Nat} {p : Nt} (h : noteT (d.extract k d.size) = some (p, n)) (hk : k ≤ d.size) : 0 < n ∧ k + n ≤ d.size := by
  obtain ⟨hn, hle, _⟩ := noteT_pos h
  have hs : (d.extract k d.size).size ≤ d.size - k := by rw [ByteArray.size_extract]; omega
  omega
theorem notesTo_hit {d : ByteArray} {L : List Nt} {k n : Nat} {p : Nt} (h : NotesTo d L k) (hk : k ≤ d.size) (hn : noteT (d.extract k d.size) = some (p, n)) : NotesTo d (L ++ [p]) (k + n) := fun f hf => by
  obtain ⟨h1, h2⟩ := hit_le hn hk
  rw [h (d.size + 1) (by omega), notesF_hit hn, notesF_fuel d.size f d (k + n) (by omega) hf h2, List.append_assoc]
  rfl
theorem notesTo_end {d : ByteArray} {L : List Nt} {k : Nat} (h : NotesTo d L k) (hn : noteT (d.extract k d.size) = none) : notesT d = (L, k) := by
  rw [h (d.size + 1) (by omega), notesF_end hn, List.append_nil]
theorem notesF_len : ∀ (f : Nat) (d : ByteArray) (k : Nat), k ≤ d.size → (notesF f d k).1.length + k ≤ (notesF f d k).2 ∧ (notesF f d k).2 ≤ d.size
  | 0, d, k, hk => ⟨by show 0 + k ≤ k; omega, hk⟩
  | f + 1, d, k, hk => by
    cases h : noteT (d.extract k d.size) with
    | none => rw [notesF_end h]; exact ⟨by show 0 + k ≤ k; omega, hk⟩
    | some q =>
      obtain ⟨p, n⟩ := q
      obtain ⟨h1, h2⟩ := hit_le h hk
      obtain ⟨i1, i2⟩ := notesF_len f d (k + n) h2
      rw [notesF_hit h]
      refine ⟨?_, i2⟩
      show (p :: (notesF f d (k + n)).1).length + k ≤ (notesF f d (k + n)).2
      rw [List.length_cons]
      omega
theorem notesTo_len {d : ByteArray} {L : List Nt} {k : Nat} (h : NotesTo d L k) : L.length ≤ d.size := by
  have h1 := h (d.size + 1) (by omega)
  obtain ⟨h2, h3⟩ := notesF_len (d.size + 1) d 0 (Nat.zero_le _)
  have h4 : (notesT d).1.length + 0 ≤ (notesT d).2 := h2
  have h5 : (notesT d).2 ≤ d.size := h3
  rw [h1] at h4 h5
  simp only [List.length_append] at h4 h5
  omega
end Go.Proofs.YtfoncmeplofedaqDoor
