/-
  NARROWER THAN 'FOR EVERY INPUT', by the rows' own cells (each row's printed sentence says how): FnExactReplayed: ifaces, laid.
  DERIVED. THE GIVEN ROWS OF THIS SEAT. 1 by the template 'for every input the law returns true; each argument reads behind the call as it read before'; 0 by the template 'total and deterministic' (their statements: YtfoncmeplofedaqGreatDoorTotals.lean).
  GIVEN WITH THE SEED: the statements are not yours to turn. If you find one false, say at which input.
  Laid BY PROGRAM, IN A SANDBOX (cutbox-rows.mjs): the forced cells as the released guide's own fill.sh prints them over the translation 9b4850ef7b9b7f23… (all of the seat's roots in one cut). By AI agents, Wed Nov 11 2026. No macro, syntax, notation, axiom, sorry.
-/
import Derived.Test.YtfoncmeplofedaqGreatDoorChecked
import GoSem.Claim
import GoSem.ClaimJoined
import GoSem.ClaimMapViews
import Derived.JoinedTies
import Derived.KernelRfl
namespace Go.Proofs.YtfoncmeplofedaqGreatDoor
/- THE CELL 'sum', in the pinned program and in every row, IS THE sha256 OF THE DUMP (.gsa) THAT YtfoncmeplofedaqGreatDoorProg.lean LOADS. Nothing in Lean hashes anything: it is a label: what it is worth is what the hold of that sum in a sandbox is worth. -/
noncomputable def Tryz.pinned : Pinned := { name := "ytfoncmeplofedaqgreatdoor", sum := "9b4850ef7b9b7f23175d3054da61773ead425dbc503ba2922d563afe1ecf401a", checked := Tryz.checked }
namespace Rows
def none {H : Type} : Left H := { results := [], args := [] }

/- WHAT THE LISTED PACKAGE-LEVEL VARIABLES READ AS WHEN THE CALL BEGINS. Each datum BY PROGRAM (the guide's laid-datum.mjs) off the statement by which the dump's own 'gosem.cut.vars' lays the variable. In a bare row this is a premise. The card (YtfoncmeplofedaqGreatDoorCards.lean) ties it to the program's text. -/
def laid_loop_example_g00260_impl_errNoNote {H : Type} : DataW H := .iface "*errors.errorString" (.ptr (.agg [.lit (.string [110, 111, 32, 78, 111, 116, 101])]))

/-- 'laws.FnExactReplayed': WHATEVER THE INPUT: true; the input reads as it did. -/
def fnExactReplayedSpec : ChangeSpec := { name := "fnExactReplayed", vars := ["loop.example/g00260/impl.errNoNote"], fn := fun _ => fun
  | [d, g1] => { results := [.lit (.bool true)], args := [d], vars := [g1] }
  | _ => none }
def fnExactReplayedRow : OpenClaim := { program := "ytfoncmeplofedaqgreatdoor", sum := "9b4850ef7b9b7f23175d3054da61773ead425dbc503ba2922d563afe1ecf401a", func := "loop.example/g00260/laws.FnExactReplayed", spec := "fnExactReplayed", inPlace := ["slices.overlaps[loop.example/g00260/impl.Item]", "internal/reflectlite.TypeOf"], unfollowed := true, recurses := true, named := ["loop.example/g00260/impl.errNoNote"], ifaces := true, apart := false, laid := [("loop.example/g00260/impl.errNoNote", laid_loop_example_g00260_impl_errNoNote)] }
def FnExactReplayedSaid : Prop := fnExactReplayedRow.holds Tryz.pinned (OpenSpec.ofChange fnExactReplayedSpec)

/-- ITS FALSE NEIGHBOUR: 'it returns false'. Refute it at one input. -/
def fnExactReplayedWrong : ChangeSpec := { name := "fnExactReplayed", vars := ["loop.example/g00260/impl.errNoNote"], fn := fun _ => fun
  | [d, g1] => { results := [.lit (.bool false)], args := [d], vars := [g1] }
  | _ => none }
def FnExactReplayedWrongFalsely : Prop := fnExactReplayedRow.holds Tryz.pinned (OpenSpec.ofChange fnExactReplayedWrong)

/- THE SECOND FORM. 'bulk': how many values and letters a reading holds, each counted each time it is reached (what is shared counts as often as it is met; a slice's spare places count too). A statement '..UptoSaid' is the law's where the arguments, and the package variables that the reading takes, are together of bulk at most 1048576: NARROWER than '..Said'. Prove '..Said' where nothing that the law and all that it calls make is longer than what came in: it says more and counts as full. Else prove '..UptoSaid'. A law counts once. -/
mutual
def uptoBulk {H : Type} : DataW H → Nat
  | .lit (.string bytes) => bytes.length + 1
  | .lit _ => 1
  | .nil => 1
  | .ptr d => uptoBulk d + 1
  | .slice elems spare => uptoBulkAll elems + uptoBulkAll spare + 1
  | .agg parts => uptoBulkAll parts + 1
  | .iface _ d => uptoBulk d + 1
  | .map entries => uptoBulkEntries entries + 1
  | .held _ => 1
def uptoBulkAll {H : Type} : List (DataW H) → Nat
  | [] => 0
  | d :: r => uptoBulk d + uptoBulkAll r
def uptoBulkEntries {H : Type} : List (Lit × DataW H) → Nat
  | [] => 0
  | x :: r => uptoBulkEntry x + uptoBulkEntries r
def uptoBulkEntry {H : Type} : Lit × DataW H → Nat
  | (.string bytes, d) => bytes.length + uptoBulk d + 1
  | (_, d) => uptoBulk d + 1
 end
def uptoSmall : (H : Type) → List (DataW H) → Bool := fun _ ds => decide (uptoBulkAll ds ≤ 1048576)
def OpenSpec.upto (s : _root_.Go.ChangeSpec) : _root_.Go.OpenSpec := { _root_.Go.OpenSpec.ofChange s with cond := some uptoSmall }

/-- 'laws.FnExactReplayed', WHERE WHAT IT READS IS OF BULK AT MOST 1048576: true; the input reads as it did. -/
def fnExactReplayedUptoRow : OpenClaim := { program := "ytfoncmeplofedaqgreatdoor", sum := "9b4850ef7b9b7f23175d3054da61773ead425dbc503ba2922d563afe1ecf401a", func := "loop.example/g00260/laws.FnExactReplayed", spec := "fnExactReplayed", inPlace := ["slices.overlaps[loop.example/g00260/impl.Item]", "internal/reflectlite.TypeOf"], unfollowed := true, recurses := true, named := ["loop.example/g00260/impl.errNoNote"], ifaces := true, apart := false, laid := [("loop.example/g00260/impl.errNoNote", laid_loop_example_g00260_impl_errNoNote)], narrowed := true }
def FnExactReplayedUptoSaid : Prop := fnExactReplayedUptoRow.holds Tryz.pinned (OpenSpec.upto fnExactReplayedSpec)

end Rows
end Go.Proofs.YtfoncmeplofedaqGreatDoor
