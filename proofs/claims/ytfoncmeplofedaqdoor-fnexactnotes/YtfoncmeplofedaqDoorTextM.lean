/- PLAIN MATHEMATICS: the text at a place of a row, all texts of a row; no function of the program. -/
import Derived.Test.YtfoncmeplofedaqDoorItems
namespace Go.Proofs.YtfoncmeplofedaqDoor
open Go.RowKit

/-- the text of at most so many bytes at place p of s -/
def rdM (most : Nat) (s : ByteArray) (p : Nat) : Option (ByteArray × Nat) := match rdP (byts s) p with
  | none => none
  | some (m, k) => if most < m ∨ s.size < p + k + m then none else some (s.extract (p + k) (p + k + m), k + m)
theorem rdM_none {most : Nat} {s : ByteArray} {p : Nat} (h : rdP (byts s) p = none) : rdM most s p = none := by unfold rdM; rw [h]
theorem rdM_bad {most : Nat} {s : ByteArray} {p m k : Nat} (h : rdP (byts s) p = some (m, k)) (hb : most < m ∨ s.size < p + k + m) : rdM most s p = none := by unfold rdM; rw [h]; simp only; rw [if_pos hb]
theorem rdM_some {most : Nat} {s : ByteArray} {p m k : Nat} (h : rdP (byts s) p = some (m, k)) (hb : ¬ (most < m ∨ s.size < p + k + m)) : rdM most s p = some (s.extract (p + k) (p + k + m), k + m) := by unfold rdM; rw [h]; simp only; rw [if_neg hb]
/-- the text at place p of s -/
def rdT (s : ByteArray) (p : Nat) : Option (ByteArray × Nat) := match rdP (byts s) p with
  | none => none
  | some (m, k) => if 2000 < m ∨ s.size < p + k + m then none else some (s.extract (p + k) (p + k + m), k + m)
theorem rdT_none {s : ByteArray} {p : Nat} (h : rdP (byts s) p = none) : rdT s p = none := by unfold rdT; rw [h]
theorem rdT_bad {s : ByteArray} {p m k : Nat} (h : rdP (byts s) p = some (m, k)) (hb : 2000 < m ∨ s.size < p + k + m) : rdT s p = none := by unfold rdT; rw [h]; simp only; rw [if_pos hb]
theorem rdT_some {s : ByteArray} {p m k : Nat} (h : rdP (byts s) p = some (m, k)) (hb : ¬ (2000 < m ∨ s.size < p + k + m)) : rdT s p = some (s.extract (p + k) (p + k + m), k + m) := by unfold rdT; rw [h]; simp only; rw [if_neg hb]
/-- what ReadTexts tells -/
def readTexts (s : ByteArray) : Option (List ByteArray) := readL (rdT s) (byts s)

theorem one_str (w : World) (x : ByteArray) (t : TypeId) : ∀ j u, ([Value.string x] : List Value)[j]? = some u → (w.alloc (.cells #[Value.string x] t)).cell? ((⟨w.heap.size, 0, none⟩ : Addr).add j) = some u := by
  intro j u hj
  match j, hj with
  | 0, hj => simp at hj; subst hj; simp [Addr.add]

theorem rdM_text (s : ByteArray) (p : Nat) : rdM 2000 s p = rdT s p := rfl
end Go.Proofs.YtfoncmeplofedaqDoor
