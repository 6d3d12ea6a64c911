/-
  No cell of these rows narrows 'for every input' (looked for: loops, veiled, ifaces, maps, wideKeys, modest, calm, conditions, laid).
  DERIVED. THE GIVEN ROWS OF THIS SEAT. 4 by the template 'for every input the law returns true; each argument reads behind the call as it read before'; 0 by the template 'total and deterministic' (their statements: YtncmeocjiinmfapTotals.lean).
  GIVEN WITH THE SEED: the statements are not yours to turn. If you find one false, say at which input.
  Laid BY PROGRAM, IN A SANDBOX (cutbox-rows.mjs): the forced cells as the released guide's own fill.sh prints them over the translation 994f0b4053f3a3a7… (all of the seat's roots in one cut). By AI agents, Wed Nov 11 2026. No macro, syntax, notation, axiom, sorry.
-/
import Derived.Test.YtncmeocjiinmfapChecked
import GoSem.Claim
import GoSem.ClaimJoined
import GoSem.ClaimMapViews
import Derived.JoinedTies
import Derived.KernelRfl
namespace Go.Proofs.Ytncmeocjiinmfap
/- THE CELL 'sum', in the pinned program and in every row, IS THE sha256 OF THE DUMP (.gsa) THAT YtncmeocjiinmfapProg.lean LOADS. Nothing in Lean hashes anything: it is a label: what it is worth is what the hold of that sum in a sandbox is worth. -/
noncomputable def Try.pinned : Pinned := { name := "ytncmeocjiinmfap", sum := "994f0b4053f3a3a79acd22fd14aa971a98bf7e9a1f0d61f98645766dcc17b13a", checked := Try.checked }
namespace Rows
def none {H : Type} : Left H := { results := [], args := [] }

/-- 'laws.FnExactShelfOk': WHATEVER THE INPUT: true; the input reads as it did. -/
def fnExactShelfOkSpec : ChangeSpec := { name := "fnExactShelfOk", fn := fun _ => fun
  | [d] => { results := [.lit (.bool true)], args := [d] }
  | _ => none }
def fnExactShelfOkRow : OpenClaim := { program := "ytncmeocjiinmfap", sum := "994f0b4053f3a3a79acd22fd14aa971a98bf7e9a1f0d61f98645766dcc17b13a", func := "loop.example/g00260/laws.FnExactShelfOk", spec := "fnExactShelfOk", unfollowed := true, recurses := true, apart := false }
def FnExactShelfOkSaid : Prop := fnExactShelfOkRow.holds Try.pinned (OpenSpec.ofChange fnExactShelfOkSpec)

/-- ITS FALSE NEIGHBOUR: 'it returns false'. Refute it at one input. -/
def fnExactShelfOkWrong : ChangeSpec := { name := "fnExactShelfOk", fn := fun _ => fun
  | [d] => { results := [.lit (.bool false)], args := [d] }
  | _ => none }
def FnExactShelfOkWrongFalsely : Prop := fnExactShelfOkRow.holds Try.pinned (OpenSpec.ofChange fnExactShelfOkWrong)

/-- 'laws.FnExactLaid': WHATEVER THE INPUT: true; the input reads as it did. -/
def fnExactLaidSpec : ChangeSpec := { name := "fnExactLaid", fn := fun _ => fun
  | [d1, d2, d3] => { results := [.lit (.bool true)], args := [d1, d2, d3] }
  | _ => none }
def fnExactLaidRow : OpenClaim := { program := "ytncmeocjiinmfap", sum := "994f0b4053f3a3a79acd22fd14aa971a98bf7e9a1f0d61f98645766dcc17b13a", func := "loop.example/g00260/laws.FnExactLaid", spec := "fnExactLaid", inPlace := ["slices.overlaps[loop.example/g00260/impl.Blob]", "slices.overlaps[loop.example/g00260/impl.Item]"], unfollowed := true, recurses := true, apart := false }
def FnExactLaidSaid : Prop := fnExactLaidRow.holds Try.pinned (OpenSpec.ofChange fnExactLaidSpec)

/-- ITS FALSE NEIGHBOUR: 'it returns false'. Refute it at one input. -/
def fnExactLaidWrong : ChangeSpec := { name := "fnExactLaid", fn := fun _ => fun
  | [d1, d2, d3] => { results := [.lit (.bool false)], args := [d1, d2, d3] }
  | _ => none }
def FnExactLaidWrongFalsely : Prop := fnExactLaidRow.holds Try.pinned (OpenSpec.ofChange fnExactLaidWrong)

/-- 'laws.FnExactSynced': WHATEVER THE INPUT: true; the input reads as it did. -/
def fnExactSyncedSpec : ChangeSpec := { name := "fnExactSynced", fn := fun _ => fun
  | [d] => { results := [.lit (.bool true)], args := [d] }
  | _ => none }
def fnExactSyncedRow : OpenClaim := { program := "ytncmeocjiinmfap", sum := "994f0b4053f3a3a79acd22fd14aa971a98bf7e9a1f0d61f98645766dcc17b13a", func := "loop.example/g00260/laws.FnExactSynced", spec := "fnExactSynced", unfollowed := true, recurses := true, apart := false }
def FnExactSyncedSaid : Prop := fnExactSyncedRow.holds Try.pinned (OpenSpec.ofChange fnExactSyncedSpec)

/-- ITS FALSE NEIGHBOUR: 'it returns false'. Refute it at one input. -/
def fnExactSyncedWrong : ChangeSpec := { name := "fnExactSynced", fn := fun _ => fun
  | [d] => { results := [.lit (.bool false)], args := [d] }
  | _ => none }
def FnExactSyncedWrongFalsely : Prop := fnExactSyncedRow.holds Try.pinned (OpenSpec.ofChange fnExactSyncedWrong)

/-- 'laws.FnExactCrashed': WHATEVER THE INPUT: true; the input reads as it did. -/
def fnExactCrashedSpec : ChangeSpec := { name := "fnExactCrashed", fn := fun _ => fun
  | [d] => { results := [.lit (.bool true)], args := [d] }
  | _ => none }
def fnExactCrashedRow : OpenClaim := { program := "ytncmeocjiinmfap", sum := "994f0b4053f3a3a79acd22fd14aa971a98bf7e9a1f0d61f98645766dcc17b13a", func := "loop.example/g00260/laws.FnExactCrashed", spec := "fnExactCrashed", unfollowed := true, recurses := true, apart := false }
def FnExactCrashedSaid : Prop := fnExactCrashedRow.holds Try.pinned (OpenSpec.ofChange fnExactCrashedSpec)

/-- ITS FALSE NEIGHBOUR: 'it returns false'. Refute it at one input. -/
def fnExactCrashedWrong : ChangeSpec := { name := "fnExactCrashed", fn := fun _ => fun
  | [d] => { results := [.lit (.bool false)], args := [d] }
  | _ => none }
def FnExactCrashedWrongFalsely : Prop := fnExactCrashedRow.holds Try.pinned (OpenSpec.ofChange fnExactCrashedWrong)

/- THE SECOND FORM. 'bulk': how many values and letters a reading holds, each counted each time it is reached (what is shared counts as often as it is met; a slice's spare places count too). A statement '..UptoSaid' is the law's where the arguments, and the package variables that the reading takes, are together of bulk at most 1048576: NARROWER than '..Said'. Prove '..Said' where nothing that the law and all that it calls make is longer than what came in: it says more and counts as full. Else prove '..UptoSaid'. A law counts once. -/
mutual
def uptoBulk {H : Type} : DataW H → Nat
  | .lit (.string bytes) => bytes.length + 1
  | .lit _ => 1
  | .nil => 1
  | .ptr d => uptoBulk d + 1
  | .slice elems spare => uptoBulkAll elems + uptoBulkAll spare + 1
  | .agg parts => uptoBulkAll parts + 1
  | .iface _ d => uptoBulk d + 1
  | .map entries => uptoBulkEntries entries + 1
  | .held _ => 1
def uptoBulkAll {H : Type} : List (DataW H) → Nat
  | [] => 0
  | d :: r => uptoBulk d + uptoBulkAll r
def uptoBulkEntries {H : Type} : List (Lit × DataW H) → Nat
  | [] => 0
  | x :: r => uptoBulkEntry x + uptoBulkEntries r
def uptoBulkEntry {H : Type} : Lit × DataW H → Nat
  | (.string bytes, d) => bytes.length + uptoBulk d + 1
  | (_, d) => uptoBulk d + 1
 end
def uptoSmall : (H : Type) → List (DataW H) → Bool := fun _ ds => decide (uptoBulkAll ds ≤ 1048576)
def OpenSpec.upto (s : _root_.Go.ChangeSpec) : _root_.Go.OpenSpec := { _root_.Go.OpenSpec.ofChange s with cond := some uptoSmall }

/-- 'laws.FnExactShelfOk', WHERE WHAT IT READS IS OF BULK AT MOST 1048576: true; the input reads as it did. -/
def fnExactShelfOkUptoRow : OpenClaim := { program := "ytncmeocjiinmfap", sum := "994f0b4053f3a3a79acd22fd14aa971a98bf7e9a1f0d61f98645766dcc17b13a", func := "loop.example/g00260/laws.FnExactShelfOk", spec := "fnExactShelfOk", unfollowed := true, recurses := true, apart := false, narrowed := true }
def FnExactShelfOkUptoSaid : Prop := fnExactShelfOkUptoRow.holds Try.pinned (OpenSpec.upto fnExactShelfOkSpec)

/-- 'laws.FnExactLaid', WHERE WHAT IT READS IS OF BULK AT MOST 1048576: true; the input reads as it did. -/
def fnExactLaidUptoRow : OpenClaim := { program := "ytncmeocjiinmfap", sum := "994f0b4053f3a3a79acd22fd14aa971a98bf7e9a1f0d61f98645766dcc17b13a", func := "loop.example/g00260/laws.FnExactLaid", spec := "fnExactLaid", inPlace := ["slices.overlaps[loop.example/g00260/impl.Blob]", "slices.overlaps[loop.example/g00260/impl.Item]"], unfollowed := true, recurses := true, apart := false, narrowed := true }
def FnExactLaidUptoSaid : Prop := fnExactLaidUptoRow.holds Try.pinned (OpenSpec.upto fnExactLaidSpec)

/-- 'laws.FnExactSynced', WHERE WHAT IT READS IS OF BULK AT MOST 1048576: true; the input reads as it did. -/
def fnExactSyncedUptoRow : OpenClaim := { program := "ytncmeocjiinmfap", sum := "994f0b4053f3a3a79acd22fd14aa971a98bf7e9a1f0d61f98645766dcc17b13a", func := "loop.example/g00260/laws.FnExactSynced", spec := "fnExactSynced", unfollowed := true, recurses := true, apart := false, narrowed := true }
def FnExactSyncedUptoSaid : Prop := fnExactSyncedUptoRow.holds Try.pinned (OpenSpec.upto fnExactSyncedSpec)

/-- 'laws.FnExactCrashed', WHERE WHAT IT READS IS OF BULK AT MOST 1048576: true; the input reads as it did. -/
def fnExactCrashedUptoRow : OpenClaim := { program := "ytncmeocjiinmfap", sum := "994f0b4053f3a3a79acd22fd14aa971a98bf7e9a1f0d61f98645766dcc17b13a", func := "loop.example/g00260/laws.FnExactCrashed", spec := "fnExactCrashed", unfollowed := true, recurses := true, apart := false, narrowed := true }
def FnExactCrashedUptoSaid : Prop := fnExactCrashedUptoRow.holds Try.pinned (OpenSpec.upto fnExactCrashedSpec)

end Rows
end Go.Proofs.Ytncmeocjiinmfap
