/- CONTRACTS: (*impl.cursor).number. -/
import Derived.Test.YtcdfikfkmcpnoafBasis
namespace Go.Proofs.Ytcdfikfkmcpnoaf
open Go.RowKit

/-- the cursor at block cb -/
def Cur (w : World) (cb : Nat) (s : ByteArray) (p : Nat) : Prop := w.heap[cb]? = some (.cells #[.string s, .int .i64 (p : Int)] 0 (0, 0))
theorem cur_cell0 {w : World} {cb : Nat} {s : ByteArray} {p : Nat} (h : Cur w cb s p) : w.cell? ⟨cb, 0, none⟩ = some (.string s) := by
  rw [cell_of_row w cb 0 _ _ (0, 0) h]; rfl
theorem cur_cell1 {w : World} {cb : Nat} {s : ByteArray} {p : Nat} (h : Cur w cb s p) : w.cell? ⟨cb, 1, none⟩ = some (.int .i64 (p : Int)) := by
  rw [cell_of_row w cb 1 _ _ (0, 0) h]; rfl
theorem cur_free {w : World} {cb : Nat} {s : ByteArray} {p : Nat} (h : Cur w cb s p) (j : Nat) : w.frozen? ⟨cb, j, none⟩ = false := frozen_of_row w cb j _ _ h
theorem cur_lt {w : World} {cb : Nat} {s : ByteArray} {p : Nat} (h : Cur w cb s p) : cb < w.heap.size := (Array.getElem?_eq_some_iff.1 h).1

/-- what number looks at -/
def win (s : ByteArray) (p : Nat) : ByteArray := s.extract p (min (p + 6) s.size)

theorem slice_win (s : ByteArray) (p : Nat) (hp : p ≤ s.size) (w : World) :
    (Instr.slice 9 (.string s) (some (.int .i64 (p : Int))) (some (.int .i64 (if (p : Int) + 6 < (s.size : Int) then (p : Int) + 6 else (s.size : Int)))) none).run Try.prog w = .ok (.string (win s p)) w := by
  by_cases h : (p : Int) + 6 < (s.size : Int)
  · rw [if_pos h, run_slice_string _ 9 s .i64 .i64 _ _ Try.underlying9 (by omega) (by omega) (by omega)]
    have e1 : ((p : Int)).toNat = p := by omega
    have e2 : ((p : Int) + 6).toNat = min (p + 6) s.size := by omega
    rw [e1, e2]; rfl
  · rw [if_neg h, run_slice_string _ 9 s .i64 .i64 _ _ Try.underlying9 (by omega) (by omega) (by omega)]
    have e1 : ((p : Int)).toNat = p := by omega
    have e2 : ((s.size : Int)).toNat = min (p + 6) s.size := by omega
    rw [e1, e2]; rfl

/-- the number with which a row of bytes begins, and how many it takes; i: how many went before, n: what they made -/
def rdF : Nat → Nat → List Int → Option (Nat × Nat)
  | _, _, [] => none
  | i, n, b :: r => if b < 128 then (if 1099511627776 < n + b.toNat % 128 * 128 ^ i ∨ (b = 0 ∧ 0 < i) then none else some (n + b.toNat % 128 * 128 ^ i, i + 1)) else rdF (i + 1) (n + b.toNat % 128 * 128 ^ i) r

theorem pow_le_five (j : Nat) (h : j ≤ 5) : 128 ^ j ≤ 34359738368 := by
  have := Nat.pow_le_pow_right (n := 128) (by decide) h
  have e : (128 : Nat) ^ 5 = 34359738368 := by decide
  omega

/-- a step's summand, as a number -/
theorem shl_step (x : Int) (j : Nat) (h0 : 0 ≤ x) (hj : j ≤ 5) : wrap64 (x % 128 * 2 ^ (7 * j)) = ((x.toNat % 128 * 128 ^ j : Nat) : Int) ∧ x.toNat % 128 * 128 ^ j ≤ 4363686772736 := by
  have hp := pow_le_five j hj
  have h1 : x.toNat % 128 * 128 ^ j ≤ 127 * 34359738368 := Nat.mul_le_mul (by omega) hp
  have e : x % 128 * 2 ^ (7 * j) = ((x.toNat % 128 * 128 ^ j : Nat) : Int) := by
    rw [Int.natCast_mul, Int.natCast_emod, Int.toNat_of_nonneg h0, Int.pow_mul, Int.natCast_pow]
    rfl
  refine ⟨?_, by omega⟩
  rw [e]
  exact IntWalk.wrap64_in _ ⟨by omega, by omega⟩

theorem cur_below {w w' : World} {cb B : Nat} {s : ByteArray} {p : Nat} (h : Cur w cb s p) (hb : Below B w w') (hB : cb < B) : Cur w' cb s p := (hb.block cb hB).trans h

/-- the number at place p of s -/
def rdAt (s : ByteArray) (p : Nat) : Option (Nat × Nat) := rdF 0 0 (byts (win s p))

/-- what number leaves -/
def NumEnd (cb : Nat) (s : ByteArray) (p : Nat) (w : World) (e : Ending) (w' : World) : Prop :=
  match rdAt s p with
  | none => e = .returned (.tuple #[.int .i64 0, .bool false]) ∧ Below w.heap.size w w'
  | some (m, k) => e = .returned (.tuple #[.int .i64 (m : Int), .bool true]) ∧ Cur w' cb s (p + k) ∧ w.grownBy w' (some cb)

theorem numEnd_none {cb : Nat} {s : ByteArray} {p : Nat} {w : World} {w' : World} (h : rdAt s p = none) (hb : Below w.heap.size w w') : NumEnd cb s p w (.returned (.tuple #[.int .i64 0, .bool false])) w' := by
  unfold NumEnd; rw [h]; exact ⟨rfl, hb⟩
theorem numEnd_some {cb : Nat} {s : ByteArray} {p m k : Nat} {w : World} {w' : World} {z : Int} (h : rdAt s p = some (m, k)) (hz : z = (m : Int)) (hc : Cur w' cb s (p + k)) (hb : w.grownBy w' (some cb)) : NumEnd cb s p w (.returned (.tuple #[.int .i64 z, .bool true])) w' := by
  unfold NumEnd; rw [h]; exact ⟨by rw [hz], hc, hb⟩

theorem cur_store {w wr : World} {cb : Nat} {s : ByteArray} {p q : Nat} (hcu : Cur wr cb s p) (hb : Below w.heap.size w wr) (z : Int) (hz : z = (q : Int)) :
    Cur (wr.setCell ⟨cb, 1, none⟩ (.int .i64 z)) cb s q ∧ w.grownBy (wr.setCell ⟨cb, 1, none⟩ (.int .i64 z)) (some cb) := by
  subst hz
  refine ⟨?_, grown_trans ⟨hb.os, hb.tape, hb.output, hb.size, fun k hk _ => hb.block k hk⟩ ⟨rfl, rfl, rfl, by simp, fun k _ hk => heap_setCell_other wr ⟨cb, 1, none⟩ k _ (fun e => hk (by simp [e]))⟩⟩
  have h := heap_setCell_same wr cb 1 _ 0 (.int .i64 (q : Int)) hcu
  exact h

end Go.Proofs.Ytcdfikfkmcpnoaf
