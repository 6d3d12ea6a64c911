/- CONTRACTS: the program's set of numbers: add, has; and the program's Get. -/
import Derived.Test.YtfoncmeplofedaqGreatDoorBlW
import Derived.Test.YtfoncmeplofedaqGreatDoorNumAdd
import Derived.Test.YtfoncmeplofedaqGreatDoorStoP
import Derived.Maps.OwnSet
namespace Go.Proofs.YtfoncmeplofedaqGreatDoor
open Go.RowKit Go.Maps
set_option linter.unusedVariables false
set_option maxRecDepth 100000 in
theorem has_any (bm n : Nat) (D : DataW Unit) (d : Int) (w : World) (hd : -9223372036854775808 ≤ d ∧ d ≤ 9223372036854775807) (hown : SetM bm n D w) :
    Calls Tryz.prog 69 #[.map (some bm), .int .i64 d] w fun e w' => e = .returned (.bool (has D (.int .i64 d))) ∧ Below w.heap.size w w' := by
  have hkey := key7 hd
  have hb := (Below.refl w.heap.size w).alloc (Nat.le_refl _) (.cells #[] 144)
  go_enter Tryz.func69, Tryz.ntmps69
  go_wp2_with (first
    | (at_lookup; refine wpList_lookup_own_unit _ rfl _ _ 125 rfl 2 144 lawK7 Tryz.underlying125 (zeroU _) bm n D rfl hown _ _ rfl hkey ?_)
    | go_in)
  go_ret
  exact ⟨rfl, hb⟩
end Go.Proofs.YtfoncmeplofedaqGreatDoor
