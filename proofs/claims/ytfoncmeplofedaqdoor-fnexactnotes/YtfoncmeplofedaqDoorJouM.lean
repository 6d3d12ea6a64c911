/- NOTES AND DISKS OVER LISTS: what a right note is, what it is shown as, the first note of a disk, all of them. -/
import Derived.Test.YtfoncmeplofedaqDoorRoundT
import Derived.Test.YtfoncmeplofedaqDoorRound
import Derived.Test.YtfoncmeplofedaqDoorDig
import Derived.Test.YtfoncmeplofedaqDoorRise
namespace Go.Proofs.YtfoncmeplofedaqDoor
open Go.RowKit
set_option linter.unusedVariables false
/-- kind, number, text -/
abbrev Nt := Int × Int × ByteArray
abbrev nt0 : Nt := (0, 0, ByteArray.empty)
/-- the marks of a sweep are numbers that rise -/
def marksB (t : ByteArray) : Bool := match readNums (byts t) with
  | some l => risesB l
  | none => false
def noteB (p : Nt) : Bool := (decide (0 ≤ p.2.1 ∧ p.2.1 ≤ 100000) && decide (p.2.2.size ≤ 2000)) && (if p.1 = 2 then marksB p.2.2 else decide (p.1 = 1))
def bodyT (p : Nt) : ByteArray := asB (textsB [asB (numsB [p.1, p.2.1]), p.2.2])
def showL (p : Nt) : List Int := enc (bodyT p).size ++ byts (bodyT p) ++ enc (digest (bodyT p)).toNat
def showT (p : Nt) : ByteArray := if noteB p = true then asB (showL p) else ByteArray.empty
/-- what the head of a disk tells -/
def headT (d : ByteArray) (n k : Nat) : Option Nt := match readTexts (d.extract k (k + n)) with
  | some [h, t] => (match readNums (byts h) with
      | some [a, b] => some (a, b, t)
      | _ => none)
  | _ => none
/-- the note with which a disk begins, and how many bytes it takes -/
def noteT (d : ByteArray) : Option (Nt × Nat) := match rd (byts d) with
  | some (n, k) => if d.size - k < n then none else (match headT d n k with
      | some p => if (showT p).size ≠ 0 ∧ (showT p).size ≤ d.size ∧ d.extract 0 (showT p).size = showT p then some (p, (showT p).size) else none
      | none => none)
  | none => none
theorem noteT_pos {d : ByteArray} {p : Nt} {n : Nat} (h : noteT d = some (p, n)) : 0 < n ∧ n ≤ d.size ∧ showT p = d.extract 0 n := by
  unfold noteT at h
  split at h
  · split at h
    · cases h
    · split at h
      · split at h
        · rename_i h9
          simp only [Option.some.injEq, Prod.mk.injEq] at h
          obtain ⟨rfl, rfl⟩ := h
          exact ⟨by omega, h9.2.1, h9.2.2.symm⟩
        · cases h
      · cases h
  · cases h
/-- the notes from a place on, and where they end -/
def notesF : Nat → ByteArray → Nat → List Nt × Nat
  | 0, _, k => ([], k)
  | f + 1, d, k => match noteT (d.extract k d.size) with
    | some (p, n) => (p :: (notesF f d (k + n)).1, (notesF f d (k + n)).2)
    | none => ([], k)
def notesT (d : ByteArray) : List Nt × Nat := notesF (d.size + 1) d 0
theorem notesF_hit {f : Nat} {d : ByteArray} {k n : Nat} {p : Nt} (h : noteT (d.extract k d.size) = some (p, n)) : notesF (f + 1) d k = (p :: (notesF f d (k + n)).1, (notesF f d (k + n)).2) := by
  show (match noteT (d.extract k d.size) with | some (p, n) => _ | none => _) = _
  rw [h]
theorem notesF_end {f : Nat} {d : ByteArray} {k : Nat} (h : noteT (d.extract k d.size) = none) : notesF (f + 1) d k = ([], k) := by
  show (match noteT (d.extract k d.size) with | some (p, n) => _ | none => _) = _
  rw [h]
end Go.Proofs.YtfoncmeplofedaqDoor
