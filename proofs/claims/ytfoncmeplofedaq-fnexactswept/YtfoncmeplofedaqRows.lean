/-
  No cell of these rows narrows 'for every input' (looked for: loops, veiled, ifaces, maps, wideKeys, modest, calm, conditions, laid).
  DERIVED. THE GIVEN ROWS OF THIS SEAT. 4 by the template 'for every input the law returns true; each argument reads behind the call as it read before'; 0 by the template 'total and deterministic' (their statements: YtfoncmeplofedaqTotals.lean).
  GIVEN WITH THE SEED: the statements are not yours to turn. If you find one false, say at which input.
  Laid BY PROGRAM, IN A SANDBOX (cutbox-rows.mjs): the forced cells as the released guide's own fill.sh prints them over the translation 05a236ff1c5bee01… (all of the seat's roots in one cut). By AI agents, Wed Nov 11 2026. No macro, syntax, notation, axiom, sorry.
-/
import Derived.Test.YtfoncmeplofedaqChecked
import GoSem.Claim
import GoSem.ClaimJoined
import GoSem.ClaimMapViews
import Derived.JoinedTies
import Derived.KernelRfl
namespace Go.Proofs.Ytfoncmeplofedaq
/- THE CELL 'sum', in the pinned program and in every row, IS THE sha256 OF THE DUMP (.gsa) THAT YtfoncmeplofedaqProg.lean LOADS. Nothing in Lean hashes anything: it is a label: what it is worth is what the hold of that sum in a sandbox is worth. -/
noncomputable def Try.pinned : Pinned := { name := "ytfoncmeplofedaq", sum := "05a236ff1c5bee01a6dd4c52d171b1b400c1ec9686448a7fa23386440d9d3319", checked := Try.checked }
namespace Rows
def none {H : Type} : Left H := { results := [], args := [] }

/-- 'laws.FnExactSwept': WHATEVER THE INPUT: true; the input reads as it did. -/
def fnExactSweptSpec : ChangeSpec := { name := "fnExactSwept", fn := fun _ => fun
  | [d1, d2, d3] => { results := [.lit (.bool true)], args := [d1, d2, d3] }
  | _ => none }
def fnExactSweptRow : OpenClaim := { program := "ytfoncmeplofedaq", sum := "05a236ff1c5bee01a6dd4c52d171b1b400c1ec9686448a7fa23386440d9d3319", func := "loop.example/g00260/laws.FnExactSwept", spec := "fnExactSwept", unfollowed := true, recurses := true, apart := false }
def FnExactSweptSaid : Prop := fnExactSweptRow.holds Try.pinned (OpenSpec.ofChange fnExactSweptSpec)

/-- ITS FALSE NEIGHBOUR: 'it returns false'. Refute it at one input. -/
def fnExactSweptWrong : ChangeSpec := { name := "fnExactSwept", fn := fun _ => fun
  | [d1, d2, d3] => { results := [.lit (.bool false)], args := [d1, d2, d3] }
  | _ => none }
def FnExactSweptWrongFalsely : Prop := fnExactSweptRow.holds Try.pinned (OpenSpec.ofChange fnExactSweptWrong)

/-- 'laws.FnExactFetched': WHATEVER THE INPUT: true; the input reads as it did. -/
def fnExactFetchedSpec : ChangeSpec := { name := "fnExactFetched", fn := fun _ => fun
  | [d1, d2] => { results := [.lit (.bool true)], args := [d1, d2] }
  | _ => none }
def fnExactFetchedRow : OpenClaim := { program := "ytfoncmeplofedaq", sum := "05a236ff1c5bee01a6dd4c52d171b1b400c1ec9686448a7fa23386440d9d3319", func := "loop.example/g00260/laws.FnExactFetched", spec := "fnExactFetched", unfollowed := true, recurses := true, apart := false }
def FnExactFetchedSaid : Prop := fnExactFetchedRow.holds Try.pinned (OpenSpec.ofChange fnExactFetchedSpec)

/-- ITS FALSE NEIGHBOUR: 'it returns false'. Refute it at one input. -/
def fnExactFetchedWrong : ChangeSpec := { name := "fnExactFetched", fn := fun _ => fun
  | [d1, d2] => { results := [.lit (.bool false)], args := [d1, d2] }
  | _ => none }
def FnExactFetchedWrongFalsely : Prop := fnExactFetchedRow.holds Try.pinned (OpenSpec.ofChange fnExactFetchedWrong)

/-- 'laws.FnExactNoteOk': WHATEVER THE INPUT: true; the input reads as it did. -/
def fnExactNoteOkSpec : ChangeSpec := { name := "fnExactNoteOk", fn := fun _ => fun
  | [d] => { results := [.lit (.bool true)], args := [d] }
  | _ => none }
def fnExactNoteOkRow : OpenClaim := { program := "ytfoncmeplofedaq", sum := "05a236ff1c5bee01a6dd4c52d171b1b400c1ec9686448a7fa23386440d9d3319", func := "loop.example/g00260/laws.FnExactNoteOk", spec := "fnExactNoteOk", unfollowed := true, recurses := true, apart := false }
def FnExactNoteOkSaid : Prop := fnExactNoteOkRow.holds Try.pinned (OpenSpec.ofChange fnExactNoteOkSpec)

/-- ITS FALSE NEIGHBOUR: 'it returns false'. Refute it at one input. -/
def fnExactNoteOkWrong : ChangeSpec := { name := "fnExactNoteOk", fn := fun _ => fun
  | [d] => { results := [.lit (.bool false)], args := [d] }
  | _ => none }
def FnExactNoteOkWrongFalsely : Prop := fnExactNoteOkRow.holds Try.pinned (OpenSpec.ofChange fnExactNoteOkWrong)

/-- 'laws.FnExactShowNote': WHATEVER THE INPUT: true; the input reads as it did. -/
def fnExactShowNoteSpec : ChangeSpec := { name := "fnExactShowNote", fn := fun _ => fun
  | [d] => { results := [.lit (.bool true)], args := [d] }
  | _ => none }
def fnExactShowNoteRow : OpenClaim := { program := "ytfoncmeplofedaq", sum := "05a236ff1c5bee01a6dd4c52d171b1b400c1ec9686448a7fa23386440d9d3319", func := "loop.example/g00260/laws.FnExactShowNote", spec := "fnExactShowNote", unfollowed := true, recurses := true, apart := false }
def FnExactShowNoteSaid : Prop := fnExactShowNoteRow.holds Try.pinned (OpenSpec.ofChange fnExactShowNoteSpec)

/-- ITS FALSE NEIGHBOUR: 'it returns false'. Refute it at one input. -/
def fnExactShowNoteWrong : ChangeSpec := { name := "fnExactShowNote", fn := fun _ => fun
  | [d] => { results := [.lit (.bool false)], args := [d] }
  | _ => none }
def FnExactShowNoteWrongFalsely : Prop := fnExactShowNoteRow.holds Try.pinned (OpenSpec.ofChange fnExactShowNoteWrong)

/- THE SECOND FORM. 'bulk': how many values and letters a reading holds, each counted each time it is reached (what is shared counts as often as it is met; a slice's spare places count too). A statement '..UptoSaid' is the law's where the arguments, and the package variables that the reading takes, are together of bulk at most 1048576: NARROWER than '..Said'. Prove '..Said' where nothing that the law and all that it calls make is longer than what came in: it says more and counts as full. Else prove '..UptoSaid'. A law counts once. -/
mutual
def uptoBulk {H : Type} : DataW H → Nat
  | .lit (.string bytes) => bytes.length + 1
  | .lit _ => 1
  | .nil => 1
  | .ptr d => uptoBulk d + 1
  | .slice elems spare => uptoBulkAll elems + uptoBulkAll spare + 1
  | .agg parts => uptoBulkAll parts + 1
  | .iface _ d => uptoBulk d + 1
  | .map entries => uptoBulkEntries entries + 1
  | .held _ => 1
def uptoBulkAll {H : Type} : List (DataW H) → Nat
  | [] => 0
  | d :: r => uptoBulk d + uptoBulkAll r
def uptoBulkEntries {H : Type} : List (Lit × DataW H) → Nat
  | [] => 0
  | x :: r => uptoBulkEntry x + uptoBulkEntries r
def uptoBulkEntry {H : Type} : Lit × DataW H → Nat
  | (.string bytes, d) => bytes.length + uptoBulk d + 1
  | (_, d) => uptoBulk d + 1
 end
def uptoSmall : (H : Type) → List (DataW H) → Bool := fun _ ds => decide (uptoBulkAll ds ≤ 1048576)
def OpenSpec.upto (s : _root_.Go.ChangeSpec) : _root_.Go.OpenSpec := { _root_.Go.OpenSpec.ofChange s with cond := some uptoSmall }

/-- 'laws.FnExactSwept', WHERE WHAT IT READS IS OF BULK AT MOST 1048576: true; the input reads as it did. -/
def fnExactSweptUptoRow : OpenClaim := { program := "ytfoncmeplofedaq", sum := "05a236ff1c5bee01a6dd4c52d171b1b400c1ec9686448a7fa23386440d9d3319", func := "loop.example/g00260/laws.FnExactSwept", spec := "fnExactSwept", unfollowed := true, recurses := true, apart := false, narrowed := true }
def FnExactSweptUptoSaid : Prop := fnExactSweptUptoRow.holds Try.pinned (OpenSpec.upto fnExactSweptSpec)

/-- 'laws.FnExactFetched', WHERE WHAT IT READS IS OF BULK AT MOST 1048576: true; the input reads as it did. -/
def fnExactFetchedUptoRow : OpenClaim := { program := "ytfoncmeplofedaq", sum := "05a236ff1c5bee01a6dd4c52d171b1b400c1ec9686448a7fa23386440d9d3319", func := "loop.example/g00260/laws.FnExactFetched", spec := "fnExactFetched", unfollowed := true, recurses := true, apart := false, narrowed := true }
def FnExactFetchedUptoSaid : Prop := fnExactFetchedUptoRow.holds Try.pinned (OpenSpec.upto fnExactFetchedSpec)

/-- 'laws.FnExactNoteOk', WHERE WHAT IT READS IS OF BULK AT MOST 1048576: true; the input reads as it did. -/
def fnExactNoteOkUptoRow : OpenClaim := { program := "ytfoncmeplofedaq", sum := "05a236ff1c5bee01a6dd4c52d171b1b400c1ec9686448a7fa23386440d9d3319", func := "loop.example/g00260/laws.FnExactNoteOk", spec := "fnExactNoteOk", unfollowed := true, recurses := true, apart := false, narrowed := true }
def FnExactNoteOkUptoSaid : Prop := fnExactNoteOkUptoRow.holds Try.pinned (OpenSpec.upto fnExactNoteOkSpec)

/-- 'laws.FnExactShowNote', WHERE WHAT IT READS IS OF BULK AT MOST 1048576: true; the input reads as it did. -/
def fnExactShowNoteUptoRow : OpenClaim := { program := "ytfoncmeplofedaq", sum := "05a236ff1c5bee01a6dd4c52d171b1b400c1ec9686448a7fa23386440d9d3319", func := "loop.example/g00260/laws.FnExactShowNote", spec := "fnExactShowNote", unfollowed := true, recurses := true, apart := false, narrowed := true }
def FnExactShowNoteUptoSaid : Prop := fnExactShowNoteUptoRow.holds Try.pinned (OpenSpec.upto fnExactShowNoteSpec)

end Rows
end Go.Proofs.Ytfoncmeplofedaq
