/- PLAIN MATHEMATICS: a list that is read item by item. It speaks of no program. -/
import Derived.Test.YtfoncmeplofedaqDoorRead3
namespace Go.Proofs.YtfoncmeplofedaqDoor
open Go.RowKit

theorem rdF_some (L : List Int) : ∀ (i n m k : Nat), rdF i n L = some (m, k) → i < k ∧ k ≤ i + L.length ∧ m ≤ 1099511627776 := by
  induction L with
  | nil => intro i n m k h; simp [rdF] at h
  | cons b r ih =>
    intro i n m k h
    rw [rdF] at h
    by_cases h1 : b < 128
    · rw [if_pos h1] at h
      by_cases h2 : 1099511627776 < n + b.toNat % 128 * 128 ^ i ∨ (b = 0 ∧ 0 < i)
      · rw [if_pos h2] at h; cases h
      · rw [if_neg h2] at h
        simp only [Option.some.injEq, Prod.mk.injEq] at h
        simp only [List.length_cons]
        omega
    · rw [if_neg h1] at h
      have := ih _ _ _ _ h
      simp only [List.length_cons]
      omega

/-- the number at place p -/
def rdP (zs : List Int) (p : Nat) : Option (Nat × Nat) := rd (zs.drop p)
theorem rdP_some {zs : List Int} {p m k : Nat} (h : rdP zs p = some (m, k)) : 0 < k ∧ p + k ≤ zs.length ∧ m ≤ 1099511627776 := by
  have h1 := rdF_some _ _ _ _ _ h
  have h2 : ((zs.drop p).take 6).length ≤ zs.length - p := by rw [List.length_take, List.length_drop]; omega
  omega

theorem byts_win (s : ByteArray) (p : Nat) : byts (win s p) = ((byts s).drop p).take 6 := by
  unfold byts win
  rw [ByteArray.data_extract, Array.toList_extract, List.extract_eq_take_drop, List.map_take, List.map_drop]
  have hl : (s.data.toList.map fun b => (b.toNat : Int)).length = s.size := by simp
  by_cases h : p + 6 ≤ s.size
  · rw [show min (p + 6) s.size - p = 6 by omega]
  · rw [List.take_of_length_le (by rw [List.length_drop, hl]; omega), List.take_of_length_le (by rw [List.length_drop, hl]; omega)]

theorem rdAt_eq (s : ByteArray) (p : Nat) : rdAt s p = rdP (byts s) p := by
  unfold rdAt rdP rd
  rw [byts_win]

section
variable {α : Type} (it : Nat → Option (α × Nat))

def itemsAt : Nat → Nat → Option (List α × Nat)
  | 0, p => some ([], p)
  | c + 1, p => match it p with
    | none => none
    | some (x, k) => match itemsAt c (p + k) with
      | none => none
      | some (l, q) => some (x :: l, q)

/-- what comes of c items more from p on, acc being those that were read, n the end -/
def fin (n : Nat) (acc : List α) (c p : Nat) : Option (List α) := match itemsAt it c p with
  | none => none
  | some (l, q) => if q = n then some (acc ++ l) else none

theorem fin_zero (n : Nat) (acc : List α) (p : Nat) : fin it n acc 0 p = if p = n then some acc else none := by
  unfold fin itemsAt; simp
theorem fin_none (n : Nat) (acc : List α) (c p : Nat) (h : it p = none) : fin it n acc (c + 1) p = none := by
  unfold fin itemsAt; rw [h]
theorem fin_some (n : Nat) (acc : List α) (c p : Nat) {x : α} {k : Nat} (h : it p = some (x, k)) : fin it n acc (c + 1) p = fin it n (acc ++ [x]) c (p + k) := by
  unfold fin
  rw [itemsAt, h]
  simp only
  cases itemsAt it c (p + k) with
  | none => rfl
  | some y => obtain ⟨l, q⟩ := y; simp

/-- the whole list -/
def readL (zs : List Int) : Option (List α) := match rdP zs 0 with
  | none => none
  | some (c, k) => if 200 < c then none else fin it zs.length [] c k
theorem readL_none {zs : List Int} (h : rdP zs 0 = none) : readL it zs = none := by unfold readL; rw [h]
theorem readL_long {zs : List Int} {c k : Nat} (h : rdP zs 0 = some (c, k)) (hc : 200 < c) : readL it zs = none := by unfold readL; rw [h]; simp only; rw [if_pos hc]
theorem readL_some {zs : List Int} {c k : Nat} (h : rdP zs 0 = some (c, k)) (hc : ¬ 200 < c) : readL it zs = fin it zs.length [] c k := by unfold readL; rw [h]; simp only; rw [if_neg hc]
end

def rdI (zs : List Int) (p : Nat) : Option (Int × Nat) := (rdP zs p).map fun x => ((x.1 : Int), x.2)
/-- what ReadNumbers tells -/
def readNums (zs : List Int) : Option (List Int) := readL (rdI zs) zs
theorem rdI_none {zs : List Int} {p : Nat} (h : rdP zs p = none) : rdI zs p = none := by unfold rdI; rw [h]; rfl
theorem rdI_some {zs : List Int} {p m k : Nat} (h : rdP zs p = some (m, k)) : rdI zs p = some ((m : Int), k) := by unfold rdI; rw [h]; rfl

theorem cur_grown {w w' : World} {cb : Nat} {s : ByteArray} {p : Nat} {row : Option Nat} (h : Cur w cb s p) (k : w.grownBy w' row) (hne : ∀ g, row = some g → g ≠ cb) : Cur w' cb s p :=
  (k.block cb (cur_lt h) (fun e => hne cb e.symm rfl)).trans h

theorem number_cases {cb : Nat} {s : ByteArray} {p : Nat} {w : World} {e : Ending} {w' : World} (h : NumEnd cb s p w e w') :
    (rdP (byts s) p = none ∧ e = .returned (.tuple #[.int .i64 0, .bool false]) ∧ Below w.heap.size w w') ∨
    (∃ m k, rdP (byts s) p = some (m, k) ∧ e = .returned (.tuple #[.int .i64 (m : Int), .bool true]) ∧ Cur w' cb s (p + k) ∧ w.grownBy w' (some cb)) := by
  unfold NumEnd at h
  rw [rdAt_eq] at h
  split at h
  · next h1 => exact .inl ⟨h1, h.1, h.2⟩
  · next m k h1 => exact .inr ⟨m, k, h1, h.1, h.2.1, h.2.2⟩

end Go.Proofs.YtfoncmeplofedaqDoor
