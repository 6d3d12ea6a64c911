/- CONTRACTS: spec.ReadNumber, impl.ReadNumber: the number with which a row of bytes begins. -/
import Derived.Test.YtcdfikfkmcpnoafRead
namespace Go.Proofs.Ytcdfikfkmcpnoaf
open Go.RowKit

/-- what ReadNumber tells of bytes zs -/
def rd (zs : List Int) : Option (Nat × Nat) := rdF 0 0 (zs.take 6)
def rdV (zs : List Int) : Value := match rd zs with
  | none => .tuple #[.int .i64 0, .int .i64 0]
  | some (m, k) => .tuple #[.int .i64 (m : Int), .int .i64 (k : Int)]
theorem rdV_none {zs : List Int} (h : rd zs = none) : rdV zs = .tuple #[.int .i64 0, .int .i64 0] := by unfold rdV; rw [h]
theorem rdV_some {zs : List Int} {m k : Nat} (h : rd zs = some (m, k)) : rdV zs = .tuple #[.int .i64 (m : Int), .int .i64 (k : Int)] := by unfold rdV; rw [h]
theorem rdV_form (zs : List Int) : ∃ p q : Nat, rdV zs = .tuple #[.int .i64 (p : Int), .int .i64 (q : Int)] := by
  cases h : rd zs with
  | none => exact ⟨0, 0, rdV_none h⟩
  | some x => exact ⟨x.1, x.2, rdV_some h⟩
theorem rdEnd_none {zs : List Int} (h : rd zs = none) : Ending.returned (.tuple #[.int .i64 0, .int .i64 0]) = .returned (rdV zs) := by rw [rdV_none h]
theorem rdEnd_some {zs : List Int} {m k : Nat} {x y : Int} (h : rd zs = some (m, k)) (hx : x = (m : Int)) (hy : y = (k : Int)) : Ending.returned (.tuple #[.int .i64 x, .int .i64 y]) = .returned (rdV zs) := by rw [rdV_some h, hx, hy]

theorem mul_step (x : Int) (W j : Nat) (hW : W = 128 ^ j) (h0 : 0 ≤ x) (hj : j ≤ 5) : wrap64 (x % 128 * (W : Int)) = ((x.toNat % 128 * 128 ^ j : Nat) : Int) := by
  have h := shl_step x j h0 hj
  have e : x % 128 * (W : Int) = x % 128 * 2 ^ (7 * j) := by
    rw [hW, Int.pow_mul, Int.natCast_pow]; rfl
  rw [e]; exact h.1

end Go.Proofs.Ytcdfikfkmcpnoaf
