/- CONTRACTS: the program's blobs one by one: number, wrong; how number is reached. -/
import Derived.Test.YtfoncmeplofedaeStoS
import Derived.Deep.RegionHeld
import Derived.Deep.MidRow
namespace Go.Proofs.Ytfoncmeplofedae
open Go.RowKit
set_option linter.unusedVariables false
theorem meth_number (x : Array Value) (w : World) : (method 252 76 (.agg x) "loop.example/g00260/impl.number").run Try.prog w = .ok (109, .agg x) w := by kernel_rfl
theorem blNumber_any (d : Int) (t : ByteArray) (w : World) :
    Calls Try.prog 109 #[.agg #[.int .i64 d, .string t]] w fun e w' => e = .returned (.int .i64 d) ∧ Below w.heap.size w w' := by
  have hb := (Below.refl w.heap.size w).alloc (Nat.le_refl _) (.cells #[.int .i64 d, .string t] 76)
  go_enter Try.func109, Try.ntmps109
  go_wp2
  go_ret
  exact ⟨rfl, hb⟩
def wrongB (p : Bl) : Bool := decide (2000 < p.2.size) || !(decide (digest p.2 = p.1))
theorem blWrong_any (d : Int) (t : ByteArray) (w : World) (ht : t.size ≤ 9223372036854775807) :
    Calls Try.prog 53 #[.agg #[.int .i64 d, .string t]] w fun e w' => e = .returned (.bool (wrongB (d, t))) ∧ Below w.heap.size w w' := by
  have hb := (Below.refl w.heap.size w).alloc (Nat.le_refl _) (.cells #[.int .i64 d, .string t] 76)
  have HC := fun W => implDigest_any t W ht
  by_cases h : 2000 < t.size
  · have e : wrongB (d, t) = true := by unfold wrongB; simp [h]
    rw [e]
    have hI : (2000 : Int) < (t.size : Int) := by omega
    have g1 : decide ((2000 : Int) < (t.size : Int)) = true := decide_eq_true hI
    clear e
    go_enter Try.func53, Try.ntmps53
    go_wp2
    go_quiet (fail)
    go_wp2
    go_ret
    exact ⟨rfl, by first | exact hb | exact below_drewN hb _⟩
  · have hI : ¬ (2000 : Int) < (t.size : Int) := by omega
    obtain ⟨dg, hdg⟩ : ∃ dg, dg = digest t := ⟨_, rfl⟩
    have HX : Hid (digest t = dg) := hdg.symm
    have e : wrongB (d, t) = (dg != d) := by unfold wrongB; rw [hdg]; by_cases hd : digest t = d <;> simp [h, hd]
    rw [e]
    clear e hdg
    go_enter Try.func53, Try.ntmps53
    go_wp2
    have g1 : decide ((2000 : Int) < (t.size : Int)) = false := decide_eq_false (by omega)
    go_quiet (first | (go_at_call 47; refine (HC _).mono ?_; rintro e w8 ⟨rfl, rfl⟩; rw [HX.out]; exact ⟨rfl, ⟨_, rfl⟩⟩))
    go_wp2
    go_ret
    exact ⟨rfl, by first | exact hb | exact below_drewN hb _⟩
end Go.Proofs.Ytfoncmeplofedae
