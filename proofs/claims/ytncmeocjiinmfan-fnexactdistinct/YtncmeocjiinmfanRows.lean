/-
  No cell of these rows narrows 'for every input' (looked for: loops, veiled, ifaces, maps, wideKeys, modest, calm, conditions, laid).
  DERIVED. THE GIVEN ROWS OF THIS SEAT. 5 by the template 'for every input the law returns true; each argument reads behind the call as it read before'; 0 by the template 'total and deterministic' (their statements: YtncmeocjiinmfanTotals.lean).
  GIVEN WITH THE SEED: the statements are not yours to turn. If you find one false, say at which input.
  Laid BY PROGRAM, IN A SANDBOX (cutbox-rows.mjs): the forced cells as the released guide's own fill.sh prints them over the translation 49d1b58265f845dc… (all of the seat's roots in one cut). By AI agents, Wed Nov 11 2026. No macro, syntax, notation, axiom, sorry.
-/
import Derived.Test.YtncmeocjiinmfanChecked
import GoSem.Claim
import GoSem.ClaimJoined
import GoSem.ClaimMapViews
import Derived.JoinedTies
import Derived.KernelRfl
namespace Go.Proofs.Ytncmeocjiinmfan
/- THE CELL 'sum', in the pinned program and in every row, IS THE sha256 OF THE DUMP (.gsa) THAT YtncmeocjiinmfanProg.lean LOADS. Nothing in Lean hashes anything: it is a label: what it is worth is what the hold of that sum in a sandbox is worth. -/
noncomputable def Try.pinned : Pinned := { name := "ytncmeocjiinmfan", sum := "49d1b58265f845dc819ff400f2f0f150df950a469f370bc201531bd78825537e", checked := Try.checked }
namespace Rows
def none {H : Type} : Left H := { results := [], args := [] }

/-- 'laws.FnExactPatched': WHATEVER THE INPUT: true; the input reads as it did. -/
def fnExactPatchedSpec : ChangeSpec := { name := "fnExactPatched", fn := fun _ => fun
  | [d1, d2, d3] => { results := [.lit (.bool true)], args := [d1, d2, d3] }
  | _ => none }
def fnExactPatchedRow : OpenClaim := { program := "ytncmeocjiinmfan", sum := "49d1b58265f845dc819ff400f2f0f150df950a469f370bc201531bd78825537e", func := "loop.example/g00260/laws.FnExactPatched", spec := "fnExactPatched", inPlace := ["internal/abi.NoEscape"], unfollowed := true, recurses := true, apart := false }
def FnExactPatchedSaid : Prop := fnExactPatchedRow.holds Try.pinned (OpenSpec.ofChange fnExactPatchedSpec)

/-- ITS FALSE NEIGHBOUR: 'it returns false'. Refute it at one input. -/
def fnExactPatchedWrong : ChangeSpec := { name := "fnExactPatched", fn := fun _ => fun
  | [d1, d2, d3] => { results := [.lit (.bool false)], args := [d1, d2, d3] }
  | _ => none }
def FnExactPatchedWrongFalsely : Prop := fnExactPatchedRow.holds Try.pinned (OpenSpec.ofChange fnExactPatchedWrong)

/-- 'laws.FnExactSent': WHATEVER THE INPUT: true; the input reads as it did. -/
def fnExactSentSpec : ChangeSpec := { name := "fnExactSent", fn := fun _ => fun
  | [d] => { results := [.lit (.bool true)], args := [d] }
  | _ => none }
def fnExactSentRow : OpenClaim := { program := "ytncmeocjiinmfan", sum := "49d1b58265f845dc819ff400f2f0f150df950a469f370bc201531bd78825537e", func := "loop.example/g00260/laws.FnExactSent", spec := "fnExactSent", apart := false }
def FnExactSentSaid : Prop := fnExactSentRow.holds Try.pinned (OpenSpec.ofChange fnExactSentSpec)

/-- ITS FALSE NEIGHBOUR: 'it returns false'. Refute it at one input. -/
def fnExactSentWrong : ChangeSpec := { name := "fnExactSent", fn := fun _ => fun
  | [d] => { results := [.lit (.bool false)], args := [d] }
  | _ => none }
def FnExactSentWrongFalsely : Prop := fnExactSentRow.holds Try.pinned (OpenSpec.ofChange fnExactSentWrong)

/-- 'laws.FnExactLru': WHATEVER THE INPUT: true; the input reads as it did. -/
def fnExactLruSpec : ChangeSpec := { name := "fnExactLru", fn := fun _ => fun
  | [d1, d2] => { results := [.lit (.bool true)], args := [d1, d2] }
  | _ => none }
def fnExactLruRow : OpenClaim := { program := "ytncmeocjiinmfan", sum := "49d1b58265f845dc819ff400f2f0f150df950a469f370bc201531bd78825537e", func := "loop.example/g00260/laws.FnExactLru", spec := "fnExactLru", unfollowed := true, recurses := true, apart := false }
def FnExactLruSaid : Prop := fnExactLruRow.holds Try.pinned (OpenSpec.ofChange fnExactLruSpec)

/-- ITS FALSE NEIGHBOUR: 'it returns false'. Refute it at one input. -/
def fnExactLruWrong : ChangeSpec := { name := "fnExactLru", fn := fun _ => fun
  | [d1, d2] => { results := [.lit (.bool false)], args := [d1, d2] }
  | _ => none }
def FnExactLruWrongFalsely : Prop := fnExactLruRow.holds Try.pinned (OpenSpec.ofChange fnExactLruWrong)

/-- 'laws.FnExactFifo': WHATEVER THE INPUT: true; the input reads as it did. -/
def fnExactFifoSpec : ChangeSpec := { name := "fnExactFifo", fn := fun _ => fun
  | [d1, d2] => { results := [.lit (.bool true)], args := [d1, d2] }
  | _ => none }
def fnExactFifoRow : OpenClaim := { program := "ytncmeocjiinmfan", sum := "49d1b58265f845dc819ff400f2f0f150df950a469f370bc201531bd78825537e", func := "loop.example/g00260/laws.FnExactFifo", spec := "fnExactFifo", unfollowed := true, recurses := true, apart := false }
def FnExactFifoSaid : Prop := fnExactFifoRow.holds Try.pinned (OpenSpec.ofChange fnExactFifoSpec)

/-- ITS FALSE NEIGHBOUR: 'it returns false'. Refute it at one input. -/
def fnExactFifoWrong : ChangeSpec := { name := "fnExactFifo", fn := fun _ => fun
  | [d1, d2] => { results := [.lit (.bool false)], args := [d1, d2] }
  | _ => none }
def FnExactFifoWrongFalsely : Prop := fnExactFifoRow.holds Try.pinned (OpenSpec.ofChange fnExactFifoWrong)

/-- 'laws.FnExactDistinct': WHATEVER THE INPUT: true; the input reads as it did. -/
def fnExactDistinctSpec : ChangeSpec := { name := "fnExactDistinct", fn := fun _ => fun
  | [d] => { results := [.lit (.bool true)], args := [d] }
  | _ => none }
def fnExactDistinctRow : OpenClaim := { program := "ytncmeocjiinmfan", sum := "49d1b58265f845dc819ff400f2f0f150df950a469f370bc201531bd78825537e", func := "loop.example/g00260/laws.FnExactDistinct", spec := "fnExactDistinct", apart := false }
def FnExactDistinctSaid : Prop := fnExactDistinctRow.holds Try.pinned (OpenSpec.ofChange fnExactDistinctSpec)

/-- ITS FALSE NEIGHBOUR: 'it returns false'. Refute it at one input. -/
def fnExactDistinctWrong : ChangeSpec := { name := "fnExactDistinct", fn := fun _ => fun
  | [d] => { results := [.lit (.bool false)], args := [d] }
  | _ => none }
def FnExactDistinctWrongFalsely : Prop := fnExactDistinctRow.holds Try.pinned (OpenSpec.ofChange fnExactDistinctWrong)

/- THE SECOND FORM. 'bulk': how many values and letters a reading holds, each counted each time it is reached (what is shared counts as often as it is met; a slice's spare places count too). A statement '..UptoSaid' is the law's where the arguments, and the package variables that the reading takes, are together of bulk at most 1048576: NARROWER than '..Said'. Prove '..Said' where nothing that the law and all that it calls make is longer than what came in: it says more and counts as full. Else prove '..UptoSaid'. A law counts once. -/
mutual
def uptoBulk {H : Type} : DataW H → Nat
  | .lit (.string bytes) => bytes.length + 1
  | .lit _ => 1
  | .nil => 1
  | .ptr d => uptoBulk d + 1
  | .slice elems spare => uptoBulkAll elems + uptoBulkAll spare + 1
  | .agg parts => uptoBulkAll parts + 1
  | .iface _ d => uptoBulk d + 1
  | .map entries => uptoBulkEntries entries + 1
  | .held _ => 1
def uptoBulkAll {H : Type} : List (DataW H) → Nat
  | [] => 0
  | d :: r => uptoBulk d + uptoBulkAll r
def uptoBulkEntries {H : Type} : List (Lit × DataW H) → Nat
  | [] => 0
  | x :: r => uptoBulkEntry x + uptoBulkEntries r
def uptoBulkEntry {H : Type} : Lit × DataW H → Nat
  | (.string bytes, d) => bytes.length + uptoBulk d + 1
  | (_, d) => uptoBulk d + 1
 end
def uptoSmall : (H : Type) → List (DataW H) → Bool := fun _ ds => decide (uptoBulkAll ds ≤ 1048576)
def OpenSpec.upto (s : _root_.Go.ChangeSpec) : _root_.Go.OpenSpec := { _root_.Go.OpenSpec.ofChange s with cond := some uptoSmall }

/-- 'laws.FnExactPatched', WHERE WHAT IT READS IS OF BULK AT MOST 1048576: true; the input reads as it did. -/
def fnExactPatchedUptoRow : OpenClaim := { program := "ytncmeocjiinmfan", sum := "49d1b58265f845dc819ff400f2f0f150df950a469f370bc201531bd78825537e", func := "loop.example/g00260/laws.FnExactPatched", spec := "fnExactPatched", inPlace := ["internal/abi.NoEscape"], unfollowed := true, recurses := true, apart := false, narrowed := true }
def FnExactPatchedUptoSaid : Prop := fnExactPatchedUptoRow.holds Try.pinned (OpenSpec.upto fnExactPatchedSpec)

/-- 'laws.FnExactSent', WHERE WHAT IT READS IS OF BULK AT MOST 1048576: true; the input reads as it did. -/
def fnExactSentUptoRow : OpenClaim := { program := "ytncmeocjiinmfan", sum := "49d1b58265f845dc819ff400f2f0f150df950a469f370bc201531bd78825537e", func := "loop.example/g00260/laws.FnExactSent", spec := "fnExactSent", apart := false, narrowed := true }
def FnExactSentUptoSaid : Prop := fnExactSentUptoRow.holds Try.pinned (OpenSpec.upto fnExactSentSpec)

/-- 'laws.FnExactLru', WHERE WHAT IT READS IS OF BULK AT MOST 1048576: true; the input reads as it did. -/
def fnExactLruUptoRow : OpenClaim := { program := "ytncmeocjiinmfan", sum := "49d1b58265f845dc819ff400f2f0f150df950a469f370bc201531bd78825537e", func := "loop.example/g00260/laws.FnExactLru", spec := "fnExactLru", unfollowed := true, recurses := true, apart := false, narrowed := true }
def FnExactLruUptoSaid : Prop := fnExactLruUptoRow.holds Try.pinned (OpenSpec.upto fnExactLruSpec)

/-- 'laws.FnExactFifo', WHERE WHAT IT READS IS OF BULK AT MOST 1048576: true; the input reads as it did. -/
def fnExactFifoUptoRow : OpenClaim := { program := "ytncmeocjiinmfan", sum := "49d1b58265f845dc819ff400f2f0f150df950a469f370bc201531bd78825537e", func := "loop.example/g00260/laws.FnExactFifo", spec := "fnExactFifo", unfollowed := true, recurses := true, apart := false, narrowed := true }
def FnExactFifoUptoSaid : Prop := fnExactFifoUptoRow.holds Try.pinned (OpenSpec.upto fnExactFifoSpec)

/-- 'laws.FnExactDistinct', WHERE WHAT IT READS IS OF BULK AT MOST 1048576: true; the input reads as it did. -/
def fnExactDistinctUptoRow : OpenClaim := { program := "ytncmeocjiinmfan", sum := "49d1b58265f845dc819ff400f2f0f150df950a469f370bc201531bd78825537e", func := "loop.example/g00260/laws.FnExactDistinct", spec := "fnExactDistinct", apart := false, narrowed := true }
def FnExactDistinctUptoSaid : Prop := fnExactDistinctUptoRow.holds Try.pinned (OpenSpec.upto fnExactDistinctSpec)

end Rows
end Go.Proofs.Ytncmeocjiinmfan
