/- CONTRACTS: the program's set of numbers: add, has; and the program's Get. -/
import Derived.Test.YtfoncmeplofedafBlW
import Derived.Test.YtfoncmeplofedafNumAdd
import Derived.Test.YtfoncmeplofedafBun
import Derived.Maps.OwnSet
namespace Go.Proofs.Ytfoncmeplofedaf
open Go.RowKit Go.Maps
set_option linter.unusedVariables false
set_option maxRecDepth 100000 in
theorem has_any (bm n : Nat) (D : DataW Unit) (d : Int) (w : World) (hd : -9223372036854775808 ≤ d ∧ d ≤ 9223372036854775807) (hown : SetM bm n D w) :
    Calls Try.prog 59 #[.map (some bm), .int .i64 d] w fun e w' => e = .returned (.bool (has D (.int .i64 d))) ∧ Below w.heap.size w w' := by
  have hkey := key7 hd
  have hb := (Below.refl w.heap.size w).alloc (Nat.le_refl _) (.cells #[] 110)
  go_enter Try.func59, Try.ntmps59
  go_wp2_with (first
    | (at_lookup; refine wpList_lookup_own_unit _ rfl _ _ 90 rfl 2 110 lawK7 Try.underlying90 (zeroU _) bm n D rfl hown _ _ rfl hkey ?_)
    | go_in)
  go_ret
  exact ⟨rfl, hb⟩
end Go.Proofs.Ytfoncmeplofedaf
