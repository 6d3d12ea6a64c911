/- THE LAWS' OWN READERS OVER A SLICE OF TEXTS: eqStringS (of two that are alike), toStringS, szStringS. -/
import Derived.Test.YtfoncmeplofedaeBasis
namespace Go.Proofs.Ytfoncmeplofedae
open Go.RowKit

/-- what is left of l when the lengths of xs are taken off; -1 when it falls below 0 -/
def szF : List ByteArray → Int → Int
  | [], l => l
  | s :: r, l => if l - (s.size : Int) < 0 then -1 else szF r (l - (s.size : Int))
def szS (xs : List ByteArray) (l : Int) : Int := if l - (xs.length : Int) < 0 then -1 else szF xs (l - (xs.length : Int))
theorem szF_nonneg (xs : List ByteArray) : ∀ l, 0 ≤ szF xs l → 0 ≤ l → szF xs l ≤ l ∧ ∀ s ∈ xs, (s.size : Int) ≤ l := by
  induction xs with
  | nil => intro l _ _; exact ⟨Int.le_refl _, fun s hs => by cases hs⟩
  | cons s r ih =>
    intro l h h0
    rw [szF] at h ⊢
    by_cases hn : l - (s.size : Int) < 0
    · rw [if_pos hn] at h; omega
    · rw [if_neg hn] at h ⊢
      have h1 := ih _ h (by omega)
      refine ⟨by omega, fun x hx => ?_⟩
      rcases List.mem_cons.1 hx with rfl | hx
      · omega
      · have := h1.2 x hx; omega
theorem szS_nonneg {xs : List ByteArray} {l : Int} (h : 0 ≤ szS xs l) : (xs.length : Int) ≤ l ∧ ∀ s ∈ xs, (s.size : Int) ≤ l := by
  unfold szS at h
  by_cases hn : l - (xs.length : Int) < 0
  · rw [if_pos hn] at h; omega
  · rw [if_neg hn] at h
    have h1 := szF_nonneg xs _ h (by omega)
    exact ⟨by omega, fun s hs => by have := h1.2 s hs; omega⟩
theorem szF_drop (xs : List ByteArray) (k : Nat) (l : Int) (h : k < xs.length) : szF (xs.drop k) l = if l - ((xs.getD k ByteArray.empty).size : Int) < 0 then -1 else szF (xs.drop (k + 1)) (l - ((xs.getD k ByteArray.empty).size : Int)) := by
  have e : xs.drop k = xs.getD k ByteArray.empty :: xs.drop (k + 1) := by rw [List.drop_eq_getElem_cons h]; simp [List.getD, h]
  rw [e, szF]

end Go.Proofs.Ytfoncmeplofedae
