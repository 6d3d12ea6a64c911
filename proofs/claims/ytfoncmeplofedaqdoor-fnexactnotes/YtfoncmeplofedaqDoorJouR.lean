/- NOTES AND DISKS OVER LISTS: a disk that is cut anywhere has its first notes; the notes of a disk shown again are its beginning. -/
import Derived.Test.YtfoncmeplofedaqDoorJouQ
namespace Go.Proofs.YtfoncmeplofedaqDoor
open Go.RowKit
set_option linter.unusedVariables false
theorem noteT_iff {d : ByteArray} {p : Nt} {n : Nat} : noteT d = some (p, n) ↔ noteB p = true ∧ n = (showL p).length ∧ ∃ rest, byts d = showL p ++ rest := by
  constructor
  · intro h
    obtain ⟨h1, h2, h3⟩ := noteT_pos h
    have hp : noteB p = true := by
      cases hb : noteB p with
      | true => rfl
      | false =>
        have e : showT p = ByteArray.empty := by unfold showT; rw [if_neg (by rw [hb]; decide)]
        have e2 := congrArg ByteArray.size h3
        rw [e] at e2
        have e3 : (d.extract 0 n).size = n := by rw [← byts_len, byts_extract, List.drop_zero, List.length_take, byts_len]; omega
        rw [e3] at e2
        have e4 : ByteArray.empty.size = 0 := rfl
        omega
    obtain ⟨s1, s2, s3⟩ := showT_is hp
    have hn : n = (showL p).length := by
      rw [← s2, h3, ← byts_len, byts_extract, List.drop_zero, List.length_take, byts_len]; omega
    refine ⟨hp, hn, (byts d).drop n, ?_⟩
    rw [← s1, h3, byts_extract, List.drop_zero, Nat.sub_zero, List.take_append_drop]
  · rintro ⟨h1, rfl, rest, h2⟩
    exact note_show h1 h2
/-- the first note of what is left of a disk that is cut -/
theorem noteT_cut {d c : ByteArray} {m : Nat} (hc : byts c = (byts d).take m) : (∀ p n, noteT d = some (p, n) → n ≤ m → noteT c = some (p, n)) ∧ (∀ p n, noteT c = some (p, n) → noteT d = some (p, n) ∧ n ≤ m) := by
  constructor
  · intro p n h hm
    obtain ⟨h1, h2, rest, h3⟩ := noteT_iff.1 h
    refine noteT_iff.2 ⟨h1, h2, rest.take (m - n), ?_⟩
    rw [hc, h3, List.take_append, List.take_of_length_le (by omega), h2]
  · intro p n h
    obtain ⟨h1, h2, rest, h3⟩ := noteT_iff.1 h
    have hl := congrArg List.length h3
    rw [hc, List.length_take, List.length_append] at hl
    refine ⟨noteT_iff.2 ⟨h1, h2, rest ++ (byts d).drop m, ?_⟩, by omega⟩
    rw [← List.append_assoc, ← h3, hc, List.take_append_drop]
theorem sub_byts (d : ByteArray) (k : Nat) : byts (d.extract k d.size) = (byts d).drop k := by
  rw [byts_extract]
  exact List.take_of_length_le (by rw [List.length_drop, byts_len]; omega)
/-- where the notes end; shown again they are what lies from the one place to the other -/
theorem notesF_back : ∀ (f : Nat) (d : ByteArray) (k : Nat), k ≤ d.size → k ≤ (notesF f d k).2 ∧ (notesF f d k).2 ≤ d.size ∧ (notesF f d k).1.flatMap showL = ((byts d).drop k).take ((notesF f d k).2 - k) ∧ (∀ p ∈ (notesF f d k).1, noteB p = true)
  | 0, d, k, hk => ⟨Nat.le_refl _, hk, by show [] = _; rw [show (notesF 0 d k).2 = k from rfl, Nat.sub_self]; rfl, fun p hp => by cases hp⟩
  | f + 1, d, k, hk => by
    cases h : noteT (d.extract k d.size) with
    | none =>
      rw [notesF_end h]
      refine ⟨Nat.le_refl _, hk, ?_, fun p hp => by cases hp⟩
      show [] = _
      rw [Nat.sub_self]; rfl
    | some q =>
      obtain ⟨p, n⟩ := q
      obtain ⟨h1, h2, rest, h3⟩ := noteT_iff.1 h
      rw [sub_byts] at h3
      have hl := congrArg List.length h3
      rw [List.length_drop, List.length_append, byts_len] at hl
      obtain ⟨i1, i2, i3, i4⟩ := notesF_back f d (k + n) (by omega)
      rw [notesF_hit h]
      refine ⟨by show k ≤ (notesF f d (k + n)).2; omega, i2, ?_, fun x hx => ?_⟩
      · show (p :: (notesF f d (k + n)).1).flatMap showL = ((byts d).drop k).take ((notesF f d (k + n)).2 - k)
        have e1 : (byts d).drop (k + n) = rest := by rw [← List.drop_drop, h3, h2, List.drop_left]
        have e2 : (notesF f d (k + n)).2 - k = (showL p).length + ((notesF f d (k + n)).2 - (k + n)) := by omega
        rw [List.flatMap_cons, i3, e1, h3, e2, List.take_append, List.take_of_length_le (Nat.le_add_right _ _), Nat.add_sub_cancel_left]
      · rcases List.mem_cons.1 hx with rfl | hx
        · exact h1
        · exact i4 x hx
/-- of a disk that is cut where its notes have not ended: the first of them -/
theorem notesF_cut : ∀ (f g : Nat) (d c : ByteArray) (m k : Nat), byts c = (byts d).take m → k ≤ m → m ≤ d.size → d.size < k + f → m < k + g → (notesF g c k).1 = (notesF f d k).1.take (notesF g c k).1.length ∧ (notesF g c k).1.length ≤ (notesF f d k).1.length
  | 0, g, d, c, m, k, hc, hk, hm, hf, hg => by omega
  | f + 1, 0, d, c, m, k, hc, hk, hm, hf, hg => by omega
  | f + 1, g + 1, d, c, m, k, hc, hk, hm, hf, hg => by
    have hcs : c.size = m := by rw [← byts_len, hc, List.length_take, byts_len]; omega
    have hcut : byts (c.extract k c.size) = (byts (d.extract k d.size)).take (m - k) := by
      rw [sub_byts, sub_byts, hc, List.drop_take]
    obtain ⟨c1, c2⟩ := noteT_cut hcut
    cases h : noteT (c.extract k c.size) with
    | none =>
      rw [notesF_end h]
      exact ⟨rfl, Nat.zero_le _⟩
    | some q =>
      obtain ⟨p, n⟩ := q
      obtain ⟨h1, h2⟩ := c2 p n h
      have hn : 0 < n := (noteT_pos h).1
      rw [notesF_hit h, notesF_hit h1]
      obtain ⟨i1, i2⟩ := notesF_cut f g d c m (k + n) hc (by omega) hm (by omega) (by omega)
      refine ⟨?_, by simpa using i2⟩
      show p :: (notesF g c (k + n)).1 = (p :: (notesF f d (k + n)).1).take ((notesF g c (k + n)).1.length + 1)
      rw [List.take_succ_cons, ← i1]
end Go.Proofs.YtfoncmeplofedaqDoor
