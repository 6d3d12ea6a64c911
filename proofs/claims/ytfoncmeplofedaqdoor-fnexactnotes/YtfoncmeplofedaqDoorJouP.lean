/- NOTES AND DISKS OVER LISTS: the note of a body; a disk read step by step (a piece, its note, a number) has the same first note. -/
import Derived.Test.YtfoncmeplofedaqDoorJouR
namespace Go.Proofs.YtfoncmeplofedaqDoor
open Go.RowKit
set_option linter.unusedVariables false
/-- the note that a body tells, right or not -/
def bodyN (b : ByteArray) : Option Nt := match readTexts b with
  | some [h, t] => (match readNums (byts h) with
      | some [a, c] => some (a, c, t)
      | _ => none)
  | _ => none
/-- what the program makes of a body: the note, and whether it is right -/
def bodyV (b : ByteArray) : Nt × Bool := match bodyN b with
  | some p => (p, noteB p)
  | none => (nt0, false)
theorem bodyN_some {b : ByteArray} {k a : Int} {t h : ByteArray} (h1 : readTexts b = some [h, t]) (h2 : readNums (byts h) = some [k, a]) : bodyN b = some (k, a, t) := by
  unfold bodyN; rw [h1]; simp only; rw [h2]
theorem bodyN_texts {b : ByteArray} (h : ∀ x t, readTexts b ≠ some [x, t]) : bodyN b = none := by
  unfold bodyN
  cases hr : readTexts b with
  | none => rfl
  | some l =>
    match l, hr with
    | [], _ => rfl
    | [x], _ => rfl
    | [x, t], hr => exact absurd hr (h x t)
    | x :: t :: u :: r, _ => rfl
theorem bodyN_nums {b x t : ByteArray} (h1 : readTexts b = some [x, t]) (h : ∀ k a, readNums (byts x) ≠ some [k, a]) : bodyN b = none := by
  unfold bodyN
  simp only [h1]
theorem headT_body (d : ByteArray) (n k : Nat) : headT d n k = bodyN (d.extract k (k + n)) := rfl
/-- a body that tells a note is the note's body -/
theorem body_back {b : ByteArray} {p : Nt} (h : bodyN b = some p) : b = bodyT p ∧ p.2.2.size ≤ 2000 := by
  unfold bodyN at h
  cases hr : readTexts b with
  | none => rw [hr] at h; cases h
  | some l =>
    rw [hr] at h
    match l, hr, h with
    | [], _, h => cases h
    | [x], _, h => cases h
    | x :: t :: u :: r, _, h => cases h
    | [x, t], hr, h =>
      simp only at h
      cases hn : readNums (byts x) with
      | none => rw [hn] at h; cases h
      | some l =>
        rw [hn] at h
        match l, hn, h with
        | [], _, h => cases h
        | [x], _, h => cases h
        | x :: t :: u :: r, _, h => cases h
        | [k, a], hn, h =>
          simp only [Option.some.injEq] at h
          subst h
          obtain ⟨h1, h2, h3, h4⟩ := read_backT hr
          obtain ⟨g1, g2, g3, g4⟩ := read_back (byts_bytes x) hn
          have ex : asB (numsB [k, a]) = x := by rw [g1, of_byts]
          refine ⟨?_, h3 t (by simp)⟩
          show b = asB (textsB [asB (numsB [k, a]), t])
          rw [ex, h1, of_byts]
theorem noteB_body {p : Nt} (h : noteB p = true) : bodyN (bodyT p) = some p ∧ (bodyT p).size ≤ 4018 := by
  obtain ⟨k, a, t⟩ := p
  obtain ⟨hk, ha, ht⟩ := noteB_parts h
  have hk9 : 0 ≤ k ∧ k ≤ 1099511627776 := by rcases hk with rfl | rfl <;> exact ⟨by decide, by decide⟩
  obtain ⟨b1, b2⟩ := body_is hk9 (show 0 ≤ a ∧ a ≤ 1099511627776 by omega) ht
  exact ⟨bodyN_some b2 (head_is hk9 (show 0 ≤ a ∧ a ≤ 1099511627776 by omega)).2.2, b1⟩
theorem showL_is (p : Nt) : showL p = enc (bodyT p).size ++ (byts (bodyT p) ++ enc (digest (bodyT p)).toNat) := by unfold showL; rw [List.append_assoc]
/-- what a first note says of the piece and the number behind it -/
theorem note_piece {d : ByteArray} {k : Nat} (hk : k ≤ d.size) {p : Nt} {n : Nat} (h : noteT (d.extract k d.size) = some (p, n)) :
    ∃ j i, rdM 1099511627776 d k = some (bodyT p, j) ∧ rdP (byts d) (k + j) = some ((digest (bodyT p)).toNat, i) ∧ n = j + i ∧ noteB p = true := by
  obtain ⟨h1, h2, rest, h3⟩ := noteT_iff.1 h
  obtain ⟨hb, hbs⟩ := noteB_body h1
  rw [sub_byts, showL_is] at h3
  have hp : rdP (byts d) k = some ((bodyT p).size, (enc (bodyT p).size).length) := by
    unfold rdP; rw [h3, List.append_assoc]; exact enc_rd (by omega) _
  have hl := congrArg List.length h3
  rw [List.length_drop, List.length_append, List.length_append, List.length_append, byts_len, byts_len] at hl
  have hx : d.extract (k + (enc (bodyT p).size).length) (k + (enc (bodyT p).size).length + (bodyT p).size) = bodyT p := by
    apply byts_inj
    rw [byts_extract, ← List.drop_drop, h3, List.append_assoc, List.drop_left, Nat.add_sub_cancel_left, List.append_assoc]
    exact List.take_left' (byts_len _)
  have hm : rdM 1099511627776 d k = some (bodyT p, (enc (bodyT p).size).length + (bodyT p).size) := by
    rw [rdM_some hp (by omega), hx]
  refine ⟨_, (enc (digest (bodyT p)).toNat).length, hm, ?_, ?_, h1⟩
  · unfold rdP
    rw [← Nat.add_assoc, ← List.drop_drop, ← List.drop_drop, h3, List.append_assoc, List.drop_left, List.append_assoc, List.drop_left' (byts_len _)]
    have hd := digest_in (bodyT p)
    exact enc_rd (by omega) _
  · rw [h2, showL_is, List.length_append, List.length_append, byts_len]
    omega
/-- a piece, its note, a number that is its digest: the disk begins there with the note -/
theorem piece_note {d : ByteArray} {k : Nat} (hk : k ≤ d.size) {x : ByteArray} {j : Nat} (h : rdM 1099511627776 d k = some (x, j)) {p : Nt} (hb : bodyN x = some p) (hp : noteB p = true) {m i : Nat} (hn : rdP (byts d) (k + j) = some (m, i)) (hm : (m : Int) = digest x) :
    noteT (d.extract k d.size) = some (p, j + i) := by
  obtain ⟨e, _⟩ := body_back hb
  cases hr : rdP (byts d) k with
  | none => rw [rdM_none hr] at h; cases h
  | some y =>
    obtain ⟨m0, k0⟩ := y
    by_cases hbad : 1099511627776 < m0 ∨ d.size < k + k0 + m0
    · rw [rdM_bad hr hbad] at h; cases h
    · rw [rdM_some hr hbad] at h
      simp only [Option.some.injEq, Prod.mk.injEq] at h
      obtain ⟨hx, hj⟩ := h
      obtain ⟨g1, g2⟩ := rd_enc (bytes_drop' (byts_bytes d) k) hr
      obtain ⟨f1, f2⟩ := rd_enc (bytes_drop' (byts_bytes d) (k + j)) hn
      have hxs : x.size = m0 := by rw [← hx, ByteArray.size_extract]; omega
      have hxb : byts x = ((byts d).drop (k + k0)).take m0 := by rw [← hx, byts_extract, Nat.add_sub_cancel_left]
      have hd := digest_in x
      have hmd : m = (digest x).toNat := by omega
      refine noteT_iff.2 ⟨hp, ?_, (byts d).drop (k + j + i), ?_⟩
      · rw [showL_is, ← e, List.length_append, List.length_append, byts_len, hxs, ← hmd, ← g1, ← f1, List.length_take, List.length_take, List.length_drop, List.length_drop, byts_len]
        obtain ⟨_, q2, _⟩ := rdP_some hr
        obtain ⟨_, q4, _⟩ := rdP_some hn
        rw [byts_len] at q2 q4
        omega
      · rw [sub_byts, showL_is, ← e, hxs, ← hmd, ← g1, ← f1, hxb]
        have e1 : (byts d).drop (k + k0) = ((byts d).drop k).drop k0 := by rw [List.drop_drop]
        have e2 : (byts d).drop (k + j) = ((byts d).drop (k + k0)).drop m0 := by rw [List.drop_drop]; congr 1; omega
        have e3 : (byts d).drop (k + j + i) = ((byts d).drop (k + j)).drop i := by rw [List.drop_drop]
        rw [e3, List.append_assoc, List.append_assoc, List.take_append_drop, e2, List.take_append_drop, e1, List.take_append_drop]
theorem step_none {d : ByteArray} {k : Nat} (hk : k ≤ d.size) (h : rdM 1099511627776 d k = none) : noteT (d.extract k d.size) = none := by
  cases hn : noteT (d.extract k d.size) with
  | none => rfl
  | some q =>
    obtain ⟨p, n⟩ := q
    obtain ⟨j, i, h1, _⟩ := note_piece hk hn
    rw [h] at h1; cases h1
theorem step_body {d : ByteArray} {k : Nat} (hk : k ≤ d.size) {x : ByteArray} {j : Nat} (h : rdM 1099511627776 d k = some (x, j)) (hb : (bodyV x).2 = false) : noteT (d.extract k d.size) = none := by
  cases hn : noteT (d.extract k d.size) with
  | none => rfl
  | some q =>
    obtain ⟨p, n⟩ := q
    obtain ⟨j9, i, h1, h2, h3, h4⟩ := note_piece hk hn
    rw [h] at h1
    simp only [Option.some.injEq, Prod.mk.injEq] at h1
    unfold bodyV at hb
    rw [h1.1, (noteB_body h4).1] at hb
    simp only at hb
    rw [h4] at hb; cases hb
theorem step_sum {d : ByteArray} {k : Nat} (hk : k ≤ d.size) {x : ByteArray} {j : Nat} (h : rdM 1099511627776 d k = some (x, j)) (hs : ∀ m i, rdP (byts d) (k + j) = some (m, i) → (m : Int) ≠ digest x) : noteT (d.extract k d.size) = none := by
  cases hn : noteT (d.extract k d.size) with
  | none => rfl
  | some q =>
    obtain ⟨p, n⟩ := q
    obtain ⟨j9, i, h1, h2, h3, h4⟩ := note_piece hk hn
    rw [h] at h1
    simp only [Option.some.injEq, Prod.mk.injEq] at h1
    obtain ⟨rfl, rfl⟩ := h1
    have hd := digest_in (bodyT p)
    exact absurd (by omega) (hs _ _ h2)
theorem step_hit {d : ByteArray} {k : Nat} (hk : k ≤ d.size) {x : ByteArray} {j : Nat} (h : rdM 1099511627776 d k = some (x, j)) (hb : (bodyV x).2 = true) {m i : Nat} (hn : rdP (byts d) (k + j) = some (m, i)) (hm : (m : Int) = digest x) :
    noteT (d.extract k d.size) = some ((bodyV x).1, j + i) := by
  unfold bodyV at hb ⊢
  cases hx : bodyN x with
  | none => rw [hx] at hb; cases hb
  | some p =>
    rw [hx] at hb
    exact piece_note hk h hx hb hn hm
theorem step_end {d : ByteArray} : noteT (d.extract d.size d.size) = none := by
  cases hn : noteT (d.extract d.size d.size) with
  | none => rfl
  | some q =>
    obtain ⟨p, n⟩ := q
    obtain ⟨h1, h2, h3⟩ := noteT_pos hn
    have : (d.extract d.size d.size).size = 0 := by rw [ByteArray.size_extract]; omega
    omega
end Go.Proofs.YtfoncmeplofedaqDoor
