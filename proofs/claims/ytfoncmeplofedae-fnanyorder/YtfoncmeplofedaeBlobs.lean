/- ROWS OF BLOBS (a number and a text, two cells each): what is owned, what can be read. It speaks of no function of the program. -/
import Derived.Test.YtfoncmeplofedaeBasis
import Derived.Lib.Hide
namespace Go.Proofs.Ytfoncmeplofedae
open Go.RowKit
abbrev Bl := Int × ByteArray
abbrev bl0 : Bl := (0, ByteArray.empty)
abbrev In64 (d : Int) : Prop := -9223372036854775808 ≤ d ∧ d ≤ 9223372036854775807
def blC (l : List Bl) : List Value := l.flatMap fun p => [.int .i64 p.1, .string p.2]
theorem blC_nil : blC [] = [] := rfl
theorem blC_cons (p : Bl) (l : List Bl) : blC (p :: l) = .int .i64 p.1 :: .string p.2 :: blC l := rfl
theorem blC_append (l m : List Bl) : blC (l ++ m) = blC l ++ blC m := by unfold blC; rw [List.flatMap_append]
theorem blC_len (l : List Bl) : (blC l).length = l.length * 2 := by
  induction l with
  | nil => rfl
  | cons p t ih => rw [blC_cons, List.length_cons, List.length_cons, ih, List.length_cons]; omega
theorem blC_get : ∀ (l : List Bl) (i : Nat), i < l.length → (blC l)[i * 2]? = some (.int .i64 (l.getD i bl0).1) ∧ (blC l)[i * 2 + 1]? = some (.string (l.getD i bl0).2)
  | p :: t, 0, _ => ⟨rfl, rfl⟩
  | p :: t, i + 1, h => by
    obtain ⟨h1, h2⟩ := blC_get t i (by simpa using h)
    rw [blC_cons, show (i + 1) * 2 = i * 2 + 1 + 1 by omega]
    exact ⟨h1, h2⟩
theorem blC_set : ∀ (l : List Bl) (i : Nat) (p : Bl), i < l.length → ((blC l).set (i * 2) (.int .i64 p.1)).set (i * 2 + 1) (.string p.2) = blC (l.set i p)
  | q :: t, 0, p, _ => rfl
  | q :: t, i + 1, p, h => by
    have e := blC_set t i p (by simpa using h)
    rw [blC_cons, show (i + 1) * 2 = i * 2 + 1 + 1 by omega, List.set_cons_succ, List.set_cons_succ, List.set_cons_succ, List.set_cons_succ, e, List.set_cons_succ, blC_cons]
theorem blC_inj {l m : List Bl} (h : blC l = blC m) : l = m := by
  induction l generalizing m with
  | nil => cases m with
    | nil => rfl
    | cons p t => cases h
  | cons p t ih => cases m with
    | nil => cases h
    | cons q r =>
      rw [blC_cons, blC_cons] at h
      simp only [List.cons.injEq, Value.int.injEq, true_and, Value.string.injEq] at h
      obtain ⟨h1, h2, h3⟩ := h
      rw [ih h3, Prod.ext h1 h2]
/-- a slice of blobs that can be read -/
def RdB (w : World) (v : Value) (l : List Bl) : Prop :=
  ∃ ao cap, v = .slice ao l.length cap ∧ l.length ≤ cap ∧ (l ≠ [] → ∃ b off, ao = some ⟨b, off, none⟩ ∧ b < w.heap.size ∧ ∀ j, j < l.length → w.cell? ⟨b, off + j * 2, none⟩ = some (.int .i64 (l.getD j bl0).1) ∧ w.cell? ⟨b, off + j * 2 + 1, none⟩ = some (.string (l.getD j bl0).2))
theorem rdB_below {w w' : World} {v : Value} {l : List Bl} (h : RdB w v l) (hb : Below w.heap.size w w') : RdB w' v l := by
  obtain ⟨ao, cap, hv, hcap, hx⟩ := h
  refine ⟨ao, cap, hv, hcap, fun hne => ?_⟩
  obtain ⟨b, off, ha, hlt, hc⟩ := hx hne
  exact ⟨b, off, ha, Nat.lt_of_lt_of_le hlt hb.size, fun j hj => ⟨(hb.cell (p := ⟨b, off + j * 2, none⟩) hlt).trans (hc j hj).1, (hb.cell (p := ⟨b, off + j * 2 + 1, none⟩) hlt).trans (hc j hj).2⟩⟩
theorem rdB_owns {w : World} {base : Nat} {e : TypeId} {v : Value} {l : List Bl} (h : w.ownsRow base e 2 v l.length (blC l)) : RdB w v l := by
  rcases h.2 with ⟨rfl, h0⟩ | ⟨g, cap, cur, rfl, hg, hh, hn, hm, hs, ht⟩
  · obtain rfl : l = [] := List.eq_nil_of_length_eq_zero h0
    exact ⟨none, 0, rfl, Nat.le_refl _, fun h => absurd rfl h⟩
  · refine ⟨_, cap, rfl, hn, fun _ => ⟨g, 0, rfl, (Array.getElem?_eq_some_iff.1 hh).1, fun j hj => ?_⟩⟩
    obtain ⟨h1, h2⟩ := blC_get l j hj
    rw [Nat.zero_add, ← h1, ← h2]
    have hl := blC_len l
    exact ⟨h.cellAt (j * 2) (by omega), h.cellAt (j * 2 + 1) (by omega)⟩
/-- the walk's view of it -/
theorem rdB_cases {w : World} {v : Value} {l : List Bl} (h : RdB w v l) :
    (l = [] ∧ ∃ ao cap, v = .slice ao 0 cap) ∨ (0 < l.length ∧ ∃ b off cap, v = .slice (some ⟨b, off, none⟩) l.length cap ∧ l.length ≤ cap ∧ b < w.heap.size ∧ ∀ j, j < l.length → w.cell? ⟨b, off + j * 2, none⟩ = some (.int .i64 (l.getD j bl0).1) ∧ w.cell? ⟨b, off + j * 2 + 1, none⟩ = some (.string (l.getD j bl0).2)) := by
  obtain ⟨ao, cap, hv, hcap, hx⟩ := h
  by_cases h0 : l = []
  · subst h0
    exact Or.inl ⟨rfl, ao, cap, hv⟩
  · obtain ⟨b, off, rfl, h2, h3⟩ := hx h0
    exact Or.inr ⟨List.length_pos_iff.2 h0, b, off, cap, hv, hcap, h2, h3⟩
theorem rdB_shape {w : World} {v : Value} {l : List Bl} (h : RdB w v l) : ∃ ao cap, v = .slice ao l.length cap := by
  obtain ⟨ao, cap, hv, _⟩ := h
  exact ⟨ao, cap, hv⟩
end Go.Proofs.Ytfoncmeplofedae
