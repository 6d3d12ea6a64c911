/- CONTRACTS at rows of impl.Dot: number, own (one), how they are reached, place$1, rises. (Written by numg.py.) -/
import Derived.Test.YtjjaephhnlhnkaoDoorDotY
import Derived.Test.YtjjaephhnlhnkaoDoorCmp
import Derived.Test.YtjjaephhnlhnkaoDoorBltg
namespace Go.Proofs.YtjjaephhnlhnkaoDoor
open Go.RowKit
set_option linter.unusedVariables false
theorem meth_numberDt (x : Array Value) (w : World) : (method 200 36 (.agg x) "loop.example/g00260/impl.number").run Tryd.prog w = .ok (68, .agg x) w := by kernel_rfl
theorem numberDt_any (x1 : Int) (x2 : Int) (w : World) :
    Calls Tryd.prog 68 #[.agg #[.int .i64 x1, .int .i64 x2]] w fun e w' => e = .returned (.int .i64 x1) ∧ Below w.heap.size w w' := by
  have hb := (Below.refl w.heap.size w).alloc (Nat.le_refl _) (.cells #[.int .i64 x1, .int .i64 x2] 36)
  go_enter Tryd.func68, Tryd.ntmps68
  go_wp2
  go_ret
  exact ⟨rfl, hb⟩
theorem place1Dt_any (x1 : Int) (x2 : Int) (y : Int) (w : World) :
    Calls Tryd.prog 29 #[.agg #[.int .i64 x1, .int .i64 x2], .int .i64 y] w fun e w' => e = .returned (.int .i64 (cmpI x1 y)) ∧ Below w.heap.size w w' := by
  have hb := (Below.refl w.heap.size w).alloc (Nat.le_refl _) (.cells #[.int .i64 x1, .int .i64 x2] 36)
  have mn := fun z W => meth_numberDt z W
  go_enter Tryd.func29, Tryd.ntmps29
  go_wp2_with fail
  refine (numberDt_any x1 x2 _).mono ?_
  rintro e w8 ⟨rfl, hb8⟩
  have hb9 := hb.trans (hb8.mono hb.size)
  clear hb8 hb
  go_wp2_with fail
  refine (compare_any x1 y _).mono ?_
  rintro e w7 ⟨rfl, rfl⟩
  go_wp2
  go_ret
  exact ⟨rfl, hb9⟩
end Go.Proofs.YtjjaephhnlhnkaoDoor
