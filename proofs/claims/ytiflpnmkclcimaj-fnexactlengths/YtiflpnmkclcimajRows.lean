/-
  No cell of these rows narrows 'for every input' (looked for: loops, veiled, ifaces, maps, wideKeys, modest, calm, conditions, laid).
  DERIVED. THE GIVEN ROWS OF THIS SEAT. 6 by the template 'for every input the law returns true; each argument reads behind the call as it read before'; 0 by the template 'total and deterministic' (their statements: YtiflpnmkclcimajTotals.lean).
  GIVEN WITH THE SEED: the statements are not yours to turn. If you find one false, say at which input.
  Laid BY PROGRAM, IN A SANDBOX (cutbox-rows.mjs): the forced cells as the released guide's own fill.sh prints them over the translation f33ccbd01a5f8a64… (all of the seat's roots in one cut). By AI agents, Wed Nov 11 2026. No macro, syntax, notation, axiom, sorry.
-/
import Derived.Test.YtiflpnmkclcimajChecked
import GoSem.Claim
import GoSem.ClaimJoined
import GoSem.ClaimMapViews
import Derived.JoinedTies
import Derived.KernelRfl
namespace Go.Proofs.Ytiflpnmkclcimaj
/- THE CELL 'sum', in the pinned program and in every row, IS THE sha256 OF THE DUMP (.gsa) THAT YtiflpnmkclcimajProg.lean LOADS. Nothing in Lean hashes anything: it is a label: what it is worth is what the hold of that sum in a sandbox is worth. -/
noncomputable def Try.pinned : Pinned := { name := "ytiflpnmkclcimaj", sum := "f33ccbd01a5f8a64f1a3bd6370060dc5eddf8c5899afb593b77170b7913e1fb6", checked := Try.checked }
namespace Rows
def none {H : Type} : Left H := { results := [], args := [] }

/-- 'laws.FnExactGlued': WHATEVER THE INPUT: true; the input reads as it did. -/
def fnExactGluedSpec : ChangeSpec := { name := "fnExactGlued", fn := fun _ => fun
  | [d] => { results := [.lit (.bool true)], args := [d] }
  | _ => none }
def fnExactGluedRow : OpenClaim := { program := "ytiflpnmkclcimaj", sum := "f33ccbd01a5f8a64f1a3bd6370060dc5eddf8c5899afb593b77170b7913e1fb6", func := "loop.example/g00260/laws.FnExactGlued", spec := "fnExactGlued", inPlace := ["internal/abi.NoEscape"], apart := false }
def FnExactGluedSaid : Prop := fnExactGluedRow.holds Try.pinned (OpenSpec.ofChange fnExactGluedSpec)

/-- ITS FALSE NEIGHBOUR: 'it returns false'. Refute it at one input. -/
def fnExactGluedWrong : ChangeSpec := { name := "fnExactGlued", fn := fun _ => fun
  | [d] => { results := [.lit (.bool false)], args := [d] }
  | _ => none }
def FnExactGluedWrongFalsely : Prop := fnExactGluedRow.holds Try.pinned (OpenSpec.ofChange fnExactGluedWrong)

/-- 'laws.FnExactShared': WHATEVER THE INPUT: true; the input reads as it did. -/
def fnExactSharedSpec : ChangeSpec := { name := "fnExactShared", fn := fun _ => fun
  | [d1, d2, d3] => { results := [.lit (.bool true)], args := [d1, d2, d3] }
  | _ => none }
def fnExactSharedRow : OpenClaim := { program := "ytiflpnmkclcimaj", sum := "f33ccbd01a5f8a64f1a3bd6370060dc5eddf8c5899afb593b77170b7913e1fb6", func := "loop.example/g00260/laws.FnExactShared", spec := "fnExactShared", apart := false }
def FnExactSharedSaid : Prop := fnExactSharedRow.holds Try.pinned (OpenSpec.ofChange fnExactSharedSpec)

/-- ITS FALSE NEIGHBOUR: 'it returns false'. Refute it at one input. -/
def fnExactSharedWrong : ChangeSpec := { name := "fnExactShared", fn := fun _ => fun
  | [d1, d2, d3] => { results := [.lit (.bool false)], args := [d1, d2, d3] }
  | _ => none }
def FnExactSharedWrongFalsely : Prop := fnExactSharedRow.holds Try.pinned (OpenSpec.ofChange fnExactSharedWrong)

/-- 'laws.FnExactLengths': WHATEVER THE INPUT: true; the input reads as it did. -/
def fnExactLengthsSpec : ChangeSpec := { name := "fnExactLengths", fn := fun _ => fun
  | [d] => { results := [.lit (.bool true)], args := [d] }
  | _ => none }
def fnExactLengthsRow : OpenClaim := { program := "ytiflpnmkclcimaj", sum := "f33ccbd01a5f8a64f1a3bd6370060dc5eddf8c5899afb593b77170b7913e1fb6", func := "loop.example/g00260/laws.FnExactLengths", spec := "fnExactLengths", unfollowed := true, recurses := true, apart := false }
def FnExactLengthsSaid : Prop := fnExactLengthsRow.holds Try.pinned (OpenSpec.ofChange fnExactLengthsSpec)

/-- ITS FALSE NEIGHBOUR: 'it returns false'. Refute it at one input. -/
def fnExactLengthsWrong : ChangeSpec := { name := "fnExactLengths", fn := fun _ => fun
  | [d] => { results := [.lit (.bool false)], args := [d] }
  | _ => none }
def FnExactLengthsWrongFalsely : Prop := fnExactLengthsRow.holds Try.pinned (OpenSpec.ofChange fnExactLengthsWrong)

/-- 'laws.FnExactCost': WHATEVER THE INPUT: true; the input reads as it did. -/
def fnExactCostSpec : ChangeSpec := { name := "fnExactCost", fn := fun _ => fun
  | [d1, d2] => { results := [.lit (.bool true)], args := [d1, d2] }
  | _ => none }
def fnExactCostRow : OpenClaim := { program := "ytiflpnmkclcimaj", sum := "f33ccbd01a5f8a64f1a3bd6370060dc5eddf8c5899afb593b77170b7913e1fb6", func := "loop.example/g00260/laws.FnExactCost", spec := "fnExactCost", apart := false }
def FnExactCostSaid : Prop := fnExactCostRow.holds Try.pinned (OpenSpec.ofChange fnExactCostSpec)

/-- ITS FALSE NEIGHBOUR: 'it returns false'. Refute it at one input. -/
def fnExactCostWrong : ChangeSpec := { name := "fnExactCost", fn := fun _ => fun
  | [d1, d2] => { results := [.lit (.bool false)], args := [d1, d2] }
  | _ => none }
def FnExactCostWrongFalsely : Prop := fnExactCostRow.holds Try.pinned (OpenSpec.ofChange fnExactCostWrong)

/-- 'laws.FnExactKraft': WHATEVER THE INPUT: true; the input reads as it did. -/
def fnExactKraftSpec : ChangeSpec := { name := "fnExactKraft", fn := fun _ => fun
  | [d] => { results := [.lit (.bool true)], args := [d] }
  | _ => none }
def fnExactKraftRow : OpenClaim := { program := "ytiflpnmkclcimaj", sum := "f33ccbd01a5f8a64f1a3bd6370060dc5eddf8c5899afb593b77170b7913e1fb6", func := "loop.example/g00260/laws.FnExactKraft", spec := "fnExactKraft", apart := false }
def FnExactKraftSaid : Prop := fnExactKraftRow.holds Try.pinned (OpenSpec.ofChange fnExactKraftSpec)

/-- ITS FALSE NEIGHBOUR: 'it returns false'. Refute it at one input. -/
def fnExactKraftWrong : ChangeSpec := { name := "fnExactKraft", fn := fun _ => fun
  | [d] => { results := [.lit (.bool false)], args := [d] }
  | _ => none }
def FnExactKraftWrongFalsely : Prop := fnExactKraftRow.holds Try.pinned (OpenSpec.ofChange fnExactKraftWrong)

/-- 'laws.FnExactCodes': WHATEVER THE INPUT: true; the input reads as it did. -/
def fnExactCodesSpec : ChangeSpec := { name := "fnExactCodes", fn := fun _ => fun
  | [d] => { results := [.lit (.bool true)], args := [d] }
  | _ => none }
def fnExactCodesRow : OpenClaim := { program := "ytiflpnmkclcimaj", sum := "f33ccbd01a5f8a64f1a3bd6370060dc5eddf8c5899afb593b77170b7913e1fb6", func := "loop.example/g00260/laws.FnExactCodes", spec := "fnExactCodes", inPlace := ["internal/abi.NoEscape"], unfollowed := true, recurses := true, apart := false }
def FnExactCodesSaid : Prop := fnExactCodesRow.holds Try.pinned (OpenSpec.ofChange fnExactCodesSpec)

/-- ITS FALSE NEIGHBOUR: 'it returns false'. Refute it at one input. -/
def fnExactCodesWrong : ChangeSpec := { name := "fnExactCodes", fn := fun _ => fun
  | [d] => { results := [.lit (.bool false)], args := [d] }
  | _ => none }
def FnExactCodesWrongFalsely : Prop := fnExactCodesRow.holds Try.pinned (OpenSpec.ofChange fnExactCodesWrong)

/- THE SECOND FORM. 'bulk': how many values and letters a reading holds, each counted each time it is reached (what is shared counts as often as it is met; a slice's spare places count too). A statement '..UptoSaid' is the law's where the arguments, and the package variables that the reading takes, are together of bulk at most 1048576: NARROWER than '..Said'. Prove '..Said' where nothing that the law and all that it calls make is longer than what came in: it says more and counts as full. Else prove '..UptoSaid'. A law counts once. -/
mutual
def uptoBulk {H : Type} : DataW H → Nat
  | .lit (.string bytes) => bytes.length + 1
  | .lit _ => 1
  | .nil => 1
  | .ptr d => uptoBulk d + 1
  | .slice elems spare => uptoBulkAll elems + uptoBulkAll spare + 1
  | .agg parts => uptoBulkAll parts + 1
  | .iface _ d => uptoBulk d + 1
  | .map entries => uptoBulkEntries entries + 1
  | .held _ => 1
def uptoBulkAll {H : Type} : List (DataW H) → Nat
  | [] => 0
  | d :: r => uptoBulk d + uptoBulkAll r
def uptoBulkEntries {H : Type} : List (Lit × DataW H) → Nat
  | [] => 0
  | x :: r => uptoBulkEntry x + uptoBulkEntries r
def uptoBulkEntry {H : Type} : Lit × DataW H → Nat
  | (.string bytes, d) => bytes.length + uptoBulk d + 1
  | (_, d) => uptoBulk d + 1
 end
def uptoSmall : (H : Type) → List (DataW H) → Bool := fun _ ds => decide (uptoBulkAll ds ≤ 1048576)
def OpenSpec.upto (s : _root_.Go.ChangeSpec) : _root_.Go.OpenSpec := { _root_.Go.OpenSpec.ofChange s with cond := some uptoSmall }

/-- 'laws.FnExactGlued', WHERE WHAT IT READS IS OF BULK AT MOST 1048576: true; the input reads as it did. -/
def fnExactGluedUptoRow : OpenClaim := { program := "ytiflpnmkclcimaj", sum := "f33ccbd01a5f8a64f1a3bd6370060dc5eddf8c5899afb593b77170b7913e1fb6", func := "loop.example/g00260/laws.FnExactGlued", spec := "fnExactGlued", inPlace := ["internal/abi.NoEscape"], apart := false, narrowed := true }
def FnExactGluedUptoSaid : Prop := fnExactGluedUptoRow.holds Try.pinned (OpenSpec.upto fnExactGluedSpec)

/-- 'laws.FnExactShared', WHERE WHAT IT READS IS OF BULK AT MOST 1048576: true; the input reads as it did. -/
def fnExactSharedUptoRow : OpenClaim := { program := "ytiflpnmkclcimaj", sum := "f33ccbd01a5f8a64f1a3bd6370060dc5eddf8c5899afb593b77170b7913e1fb6", func := "loop.example/g00260/laws.FnExactShared", spec := "fnExactShared", apart := false, narrowed := true }
def FnExactSharedUptoSaid : Prop := fnExactSharedUptoRow.holds Try.pinned (OpenSpec.upto fnExactSharedSpec)

/-- 'laws.FnExactLengths', WHERE WHAT IT READS IS OF BULK AT MOST 1048576: true; the input reads as it did. -/
def fnExactLengthsUptoRow : OpenClaim := { program := "ytiflpnmkclcimaj", sum := "f33ccbd01a5f8a64f1a3bd6370060dc5eddf8c5899afb593b77170b7913e1fb6", func := "loop.example/g00260/laws.FnExactLengths", spec := "fnExactLengths", unfollowed := true, recurses := true, apart := false, narrowed := true }
def FnExactLengthsUptoSaid : Prop := fnExactLengthsUptoRow.holds Try.pinned (OpenSpec.upto fnExactLengthsSpec)

/-- 'laws.FnExactCost', WHERE WHAT IT READS IS OF BULK AT MOST 1048576: true; the input reads as it did. -/
def fnExactCostUptoRow : OpenClaim := { program := "ytiflpnmkclcimaj", sum := "f33ccbd01a5f8a64f1a3bd6370060dc5eddf8c5899afb593b77170b7913e1fb6", func := "loop.example/g00260/laws.FnExactCost", spec := "fnExactCost", apart := false, narrowed := true }
def FnExactCostUptoSaid : Prop := fnExactCostUptoRow.holds Try.pinned (OpenSpec.upto fnExactCostSpec)

/-- 'laws.FnExactKraft', WHERE WHAT IT READS IS OF BULK AT MOST 1048576: true; the input reads as it did. -/
def fnExactKraftUptoRow : OpenClaim := { program := "ytiflpnmkclcimaj", sum := "f33ccbd01a5f8a64f1a3bd6370060dc5eddf8c5899afb593b77170b7913e1fb6", func := "loop.example/g00260/laws.FnExactKraft", spec := "fnExactKraft", apart := false, narrowed := true }
def FnExactKraftUptoSaid : Prop := fnExactKraftUptoRow.holds Try.pinned (OpenSpec.upto fnExactKraftSpec)

/-- 'laws.FnExactCodes', WHERE WHAT IT READS IS OF BULK AT MOST 1048576: true; the input reads as it did. -/
def fnExactCodesUptoRow : OpenClaim := { program := "ytiflpnmkclcimaj", sum := "f33ccbd01a5f8a64f1a3bd6370060dc5eddf8c5899afb593b77170b7913e1fb6", func := "loop.example/g00260/laws.FnExactCodes", spec := "fnExactCodes", inPlace := ["internal/abi.NoEscape"], unfollowed := true, recurses := true, apart := false, narrowed := true }
def FnExactCodesUptoSaid : Prop := fnExactCodesUptoRow.holds Try.pinned (OpenSpec.upto fnExactCodesSpec)

end Rows
end Go.Proofs.Ytiflpnmkclcimaj
