/- CONTRACT: the specification's Missing. -/
import Derived.Test.YtfoncmeplofedafStoI
namespace Go.Proofs.Ytfoncmeplofedaf
open Go.RowKit
set_option linter.unusedVariables false
theorem missF_yes {l : List Bl} {d : Int} {r acc : List Int} (h1 : findB l d = none) (h2 : acc.contains d = false) : missF l (d :: r) acc = missF l r (acc ++ [d]) := by
  rw [missF, h1, h2]; rfl
theorem missF_no {l : List Bl} {d : Int} {r acc : List Int} (h : findB l d ≠ none ∨ acc.contains d = true) : missF l (d :: r) acc = missF l r acc := by
  rw [missF]
  rcases h with h | h
  · cases hf : findB l d with
    | none => exact absurd hf h
    | some p => rfl
  · rw [h]; simp
end Go.Proofs.Ytfoncmeplofedaf
