/-
  No cell of these rows narrows 'for every input' (looked for: loops, veiled, ifaces, maps, wideKeys, modest, calm, conditions, laid).
  DERIVED. THE GIVEN ROWS OF THIS SEAT. 6 by the template 'for every input the law returns true; each argument reads behind the call as it read before'; 0 by the template 'total and deterministic' (their statements: YtndecefcnalgdaiTotals.lean).
  GIVEN WITH THE SEED: the statements are not yours to turn. If you find one false, say at which input.
  Laid BY PROGRAM, IN A SANDBOX (cutbox-rows.mjs): the forced cells as the released guide's own fill.sh prints them over the translation 7c9b5afbec3ba8a7… (all of the seat's roots in one cut). By AI agents, Wed Nov 11 2026. No macro, syntax, notation, axiom, sorry.
-/
import Derived.Test.YtndecefcnalgdaiChecked
import GoSem.Claim
import GoSem.ClaimJoined
import GoSem.ClaimMapViews
import Derived.JoinedTies
import Derived.KernelRfl
namespace Go.Proofs.Ytndecefcnalgdai
/- THE CELL 'sum', in the pinned program and in every row, IS THE sha256 OF THE DUMP (.gsa) THAT YtndecefcnalgdaiProg.lean LOADS. Nothing in Lean hashes anything: it is a label: what it is worth is what the hold of that sum in a sandbox is worth. -/
noncomputable def Try.pinned : Pinned := { name := "ytndecefcnalgdai", sum := "7c9b5afbec3ba8a7fbd0992c00a1709df624c06662394cf305f5dd64fc59f82f", checked := Try.checked }
namespace Rows
def none {H : Type} : Left H := { results := [], args := [] }

/-- 'laws.FnExactRolled': WHATEVER THE INPUT: true; the input reads as it did. -/
def fnExactRolledSpec : ChangeSpec := { name := "fnExactRolled", fn := fun _ => fun
  | [d1, d2, d3, d4] => { results := [.lit (.bool true)], args := [d1, d2, d3, d4] }
  | _ => none }
def fnExactRolledRow : OpenClaim := { program := "ytndecefcnalgdai", sum := "7c9b5afbec3ba8a7fbd0992c00a1709df624c06662394cf305f5dd64fc59f82f", func := "loop.example/g00260/laws.FnExactRolled", spec := "fnExactRolled", apart := false }
def FnExactRolledSaid : Prop := fnExactRolledRow.holds Try.pinned (OpenSpec.ofChange fnExactRolledSpec)

/-- ITS FALSE NEIGHBOUR: 'it returns false'. Refute it at one input. -/
def fnExactRolledWrong : ChangeSpec := { name := "fnExactRolled", fn := fun _ => fun
  | [d1, d2, d3, d4] => { results := [.lit (.bool false)], args := [d1, d2, d3, d4] }
  | _ => none }
def FnExactRolledWrongFalsely : Prop := fnExactRolledRow.holds Try.pinned (OpenSpec.ofChange fnExactRolledWrong)

/-- 'laws.FnExactRolls': WHATEVER THE INPUT: true; the input reads as it did. -/
def fnExactRollsSpec : ChangeSpec := { name := "fnExactRolls", fn := fun _ => fun
  | [d1, d2] => { results := [.lit (.bool true)], args := [d1, d2] }
  | _ => none }
def fnExactRollsRow : OpenClaim := { program := "ytndecefcnalgdai", sum := "7c9b5afbec3ba8a7fbd0992c00a1709df624c06662394cf305f5dd64fc59f82f", func := "loop.example/g00260/laws.FnExactRolls", spec := "fnExactRolls", unfollowed := true, recurses := true, apart := false }
def FnExactRollsSaid : Prop := fnExactRollsRow.holds Try.pinned (OpenSpec.ofChange fnExactRollsSpec)

/-- ITS FALSE NEIGHBOUR: 'it returns false'. Refute it at one input. -/
def fnExactRollsWrong : ChangeSpec := { name := "fnExactRolls", fn := fun _ => fun
  | [d1, d2] => { results := [.lit (.bool false)], args := [d1, d2] }
  | _ => none }
def FnExactRollsWrongFalsely : Prop := fnExactRollsRow.holds Try.pinned (OpenSpec.ofChange fnExactRollsWrong)

/-- 'laws.FnExactRuleOk': WHATEVER THE INPUT: true; the input reads as it did. -/
def fnExactRuleOkSpec : ChangeSpec := { name := "fnExactRuleOk", fn := fun _ => fun
  | [d] => { results := [.lit (.bool true)], args := [d] }
  | _ => none }
def fnExactRuleOkRow : OpenClaim := { program := "ytndecefcnalgdai", sum := "7c9b5afbec3ba8a7fbd0992c00a1709df624c06662394cf305f5dd64fc59f82f", func := "loop.example/g00260/laws.FnExactRuleOk", spec := "fnExactRuleOk", apart := false }
def FnExactRuleOkSaid : Prop := fnExactRuleOkRow.holds Try.pinned (OpenSpec.ofChange fnExactRuleOkSpec)

/-- ITS FALSE NEIGHBOUR: 'it returns false'. Refute it at one input. -/
def fnExactRuleOkWrong : ChangeSpec := { name := "fnExactRuleOk", fn := fun _ => fun
  | [d] => { results := [.lit (.bool false)], args := [d] }
  | _ => none }
def FnExactRuleOkWrongFalsely : Prop := fnExactRuleOkRow.holds Try.pinned (OpenSpec.ofChange fnExactRuleOkWrong)

/-- 'laws.FnExactNext': WHATEVER THE INPUT: true; the input reads as it did. -/
def fnExactNextSpec : ChangeSpec := { name := "fnExactNext", fn := fun _ => fun
  | [d1, d2] => { results := [.lit (.bool true)], args := [d1, d2] }
  | _ => none }
def fnExactNextRow : OpenClaim := { program := "ytndecefcnalgdai", sum := "7c9b5afbec3ba8a7fbd0992c00a1709df624c06662394cf305f5dd64fc59f82f", func := "loop.example/g00260/laws.FnExactNext", spec := "fnExactNext", unfollowed := true, recurses := true, apart := false }
def FnExactNextSaid : Prop := fnExactNextRow.holds Try.pinned (OpenSpec.ofChange fnExactNextSpec)

/-- ITS FALSE NEIGHBOUR: 'it returns false'. Refute it at one input. -/
def fnExactNextWrong : ChangeSpec := { name := "fnExactNext", fn := fun _ => fun
  | [d1, d2] => { results := [.lit (.bool false)], args := [d1, d2] }
  | _ => none }
def FnExactNextWrongFalsely : Prop := fnExactNextRow.holds Try.pinned (OpenSpec.ofChange fnExactNextWrong)

/-- 'laws.FnExactCuts': WHATEVER THE INPUT: true; the input reads as it did. -/
def fnExactCutsSpec : ChangeSpec := { name := "fnExactCuts", fn := fun _ => fun
  | [d1, d2] => { results := [.lit (.bool true)], args := [d1, d2] }
  | _ => none }
def fnExactCutsRow : OpenClaim := { program := "ytndecefcnalgdai", sum := "7c9b5afbec3ba8a7fbd0992c00a1709df624c06662394cf305f5dd64fc59f82f", func := "loop.example/g00260/laws.FnExactCuts", spec := "fnExactCuts", unfollowed := true, recurses := true, apart := false }
def FnExactCutsSaid : Prop := fnExactCutsRow.holds Try.pinned (OpenSpec.ofChange fnExactCutsSpec)

/-- ITS FALSE NEIGHBOUR: 'it returns false'. Refute it at one input. -/
def fnExactCutsWrong : ChangeSpec := { name := "fnExactCuts", fn := fun _ => fun
  | [d1, d2] => { results := [.lit (.bool false)], args := [d1, d2] }
  | _ => none }
def FnExactCutsWrongFalsely : Prop := fnExactCutsRow.holds Try.pinned (OpenSpec.ofChange fnExactCutsWrong)

/-- 'laws.FnExactChunks': WHATEVER THE INPUT: true; the input reads as it did. -/
def fnExactChunksSpec : ChangeSpec := { name := "fnExactChunks", fn := fun _ => fun
  | [d1, d2] => { results := [.lit (.bool true)], args := [d1, d2] }
  | _ => none }
def fnExactChunksRow : OpenClaim := { program := "ytndecefcnalgdai", sum := "7c9b5afbec3ba8a7fbd0992c00a1709df624c06662394cf305f5dd64fc59f82f", func := "loop.example/g00260/laws.FnExactChunks", spec := "fnExactChunks", inPlace := ["internal/abi.NoEscape"], unfollowed := true, recurses := true, apart := false }
def FnExactChunksSaid : Prop := fnExactChunksRow.holds Try.pinned (OpenSpec.ofChange fnExactChunksSpec)

/-- ITS FALSE NEIGHBOUR: 'it returns false'. Refute it at one input. -/
def fnExactChunksWrong : ChangeSpec := { name := "fnExactChunks", fn := fun _ => fun
  | [d1, d2] => { results := [.lit (.bool false)], args := [d1, d2] }
  | _ => none }
def FnExactChunksWrongFalsely : Prop := fnExactChunksRow.holds Try.pinned (OpenSpec.ofChange fnExactChunksWrong)

/- THE SECOND FORM. 'bulk': how many values and letters a reading holds, each counted each time it is reached (what is shared counts as often as it is met; a slice's spare places count too). A statement '..UptoSaid' is the law's where the arguments, and the package variables that the reading takes, are together of bulk at most 1048576: NARROWER than '..Said'. Prove '..Said' where nothing that the law and all that it calls make is longer than what came in: it says more and counts as full. Else prove '..UptoSaid'. A law counts once. -/
mutual
def uptoBulk {H : Type} : DataW H → Nat
  | .lit (.string bytes) => bytes.length + 1
  | .lit _ => 1
  | .nil => 1
  | .ptr d => uptoBulk d + 1
  | .slice elems spare => uptoBulkAll elems + uptoBulkAll spare + 1
  | .agg parts => uptoBulkAll parts + 1
  | .iface _ d => uptoBulk d + 1
  | .map entries => uptoBulkEntries entries + 1
  | .held _ => 1
def uptoBulkAll {H : Type} : List (DataW H) → Nat
  | [] => 0
  | d :: r => uptoBulk d + uptoBulkAll r
def uptoBulkEntries {H : Type} : List (Lit × DataW H) → Nat
  | [] => 0
  | x :: r => uptoBulkEntry x + uptoBulkEntries r
def uptoBulkEntry {H : Type} : Lit × DataW H → Nat
  | (.string bytes, d) => bytes.length + uptoBulk d + 1
  | (_, d) => uptoBulk d + 1
 end
def uptoSmall : (H : Type) → List (DataW H) → Bool := fun _ ds => decide (uptoBulkAll ds ≤ 1048576)
def OpenSpec.upto (s : _root_.Go.ChangeSpec) : _root_.Go.OpenSpec := { _root_.Go.OpenSpec.ofChange s with cond := some uptoSmall }

/-- 'laws.FnExactRolled', WHERE WHAT IT READS IS OF BULK AT MOST 1048576: true; the input reads as it did. -/
def fnExactRolledUptoRow : OpenClaim := { program := "ytndecefcnalgdai", sum := "7c9b5afbec3ba8a7fbd0992c00a1709df624c06662394cf305f5dd64fc59f82f", func := "loop.example/g00260/laws.FnExactRolled", spec := "fnExactRolled", apart := false, narrowed := true }
def FnExactRolledUptoSaid : Prop := fnExactRolledUptoRow.holds Try.pinned (OpenSpec.upto fnExactRolledSpec)

/-- 'laws.FnExactRolls', WHERE WHAT IT READS IS OF BULK AT MOST 1048576: true; the input reads as it did. -/
def fnExactRollsUptoRow : OpenClaim := { program := "ytndecefcnalgdai", sum := "7c9b5afbec3ba8a7fbd0992c00a1709df624c06662394cf305f5dd64fc59f82f", func := "loop.example/g00260/laws.FnExactRolls", spec := "fnExactRolls", unfollowed := true, recurses := true, apart := false, narrowed := true }
def FnExactRollsUptoSaid : Prop := fnExactRollsUptoRow.holds Try.pinned (OpenSpec.upto fnExactRollsSpec)

/-- 'laws.FnExactRuleOk', WHERE WHAT IT READS IS OF BULK AT MOST 1048576: true; the input reads as it did. -/
def fnExactRuleOkUptoRow : OpenClaim := { program := "ytndecefcnalgdai", sum := "7c9b5afbec3ba8a7fbd0992c00a1709df624c06662394cf305f5dd64fc59f82f", func := "loop.example/g00260/laws.FnExactRuleOk", spec := "fnExactRuleOk", apart := false, narrowed := true }
def FnExactRuleOkUptoSaid : Prop := fnExactRuleOkUptoRow.holds Try.pinned (OpenSpec.upto fnExactRuleOkSpec)

/-- 'laws.FnExactNext', WHERE WHAT IT READS IS OF BULK AT MOST 1048576: true; the input reads as it did. -/
def fnExactNextUptoRow : OpenClaim := { program := "ytndecefcnalgdai", sum := "7c9b5afbec3ba8a7fbd0992c00a1709df624c06662394cf305f5dd64fc59f82f", func := "loop.example/g00260/laws.FnExactNext", spec := "fnExactNext", unfollowed := true, recurses := true, apart := false, narrowed := true }
def FnExactNextUptoSaid : Prop := fnExactNextUptoRow.holds Try.pinned (OpenSpec.upto fnExactNextSpec)

/-- 'laws.FnExactCuts', WHERE WHAT IT READS IS OF BULK AT MOST 1048576: true; the input reads as it did. -/
def fnExactCutsUptoRow : OpenClaim := { program := "ytndecefcnalgdai", sum := "7c9b5afbec3ba8a7fbd0992c00a1709df624c06662394cf305f5dd64fc59f82f", func := "loop.example/g00260/laws.FnExactCuts", spec := "fnExactCuts", unfollowed := true, recurses := true, apart := false, narrowed := true }
def FnExactCutsUptoSaid : Prop := fnExactCutsUptoRow.holds Try.pinned (OpenSpec.upto fnExactCutsSpec)

/-- 'laws.FnExactChunks', WHERE WHAT IT READS IS OF BULK AT MOST 1048576: true; the input reads as it did. -/
def fnExactChunksUptoRow : OpenClaim := { program := "ytndecefcnalgdai", sum := "7c9b5afbec3ba8a7fbd0992c00a1709df624c06662394cf305f5dd64fc59f82f", func := "loop.example/g00260/laws.FnExactChunks", spec := "fnExactChunks", inPlace := ["internal/abi.NoEscape"], unfollowed := true, recurses := true, apart := false, narrowed := true }
def FnExactChunksUptoSaid : Prop := fnExactChunksUptoRow.holds Try.pinned (OpenSpec.upto fnExactChunksSpec)

end Rows
end Go.Proofs.Ytndecefcnalgdai
