/- CONTRACTS: the program's Ranks, Winner. -/
import Derived.Test.YtidmaaglfckcbaoDoorScoF
import Derived.Test.YtidmaaglfckcbaoDoorSog
import Derived.Test.YtidmaaglfckcbaoDoorQue
import Derived.Lib.Hide
namespace Go.Proofs.YtidmaaglfckcbaoDoor
open Go.Shelf Go.RowKit
set_option linter.unusedVariables false
/-- a node and its score -/
abbrev scD (k x : Int) : Dt := (scoT x k, x)
abbrev leA (x y : Dt) : Bool := !(ltOf agI) y x
theorem any_sc (k : Int) (l : List Int) (x : Int) : ((l.map (scD k)).any fun y : Dt => decide (y = scD k x)) = decide (x ∈ l) := by
  by_cases h : x ∈ l
  · rw [decide_eq_true h]
    exact List.any_eq_true.2 ⟨scD k x, List.mem_map_of_mem h, by simp⟩
  · rw [decide_eq_false h]
    apply List.any_eq_false.2
    intro y hy
    obtain ⟨z, hz, rfl⟩ := List.mem_map.1 hy
    simp only [decide_eq_true_eq, scD, Prod.mk.injEq, not_and]
    intro _ e
    exact h (e ▸ hz)
theorem rd_oneI (w : World) (x : Int) : Rd (w.alloc (.cells #[.int .i64 x] 2)) (.slice (some ⟨w.heap.size, 0, none⟩) 1 1) (cellsInt64S [x]) :=
  rd_owns (World.ownsRow_lit (base := w.heap.size) (e := 2) (size := 1) w #[.int .i64 x] 1 (Nat.le_refl _) (by decide) rfl)
end Go.Proofs.YtidmaaglfckcbaoDoor
