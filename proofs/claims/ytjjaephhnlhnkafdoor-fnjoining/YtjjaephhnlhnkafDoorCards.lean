/-
  DERIVED. GIVEN WITH THE SEED: THE CARDS: each row of YtjjaephhnlhnkafDoorRows.lean that lists a variable, with what it lists TIED to the program's text (the seventh form; the later family's looks); each row that meets fmt, with fmt's text TOLD by the authors' own Lean function (tested against real Go, not proved from fmt's source: count such statements apart). THE CARD IS WHAT COUNTS. Prove the row's statement (the work); the ties are given (YtjjaephhnlhnkafDoorTie.lean); close each card by the builder's one call (the guide's Derived/Test/ToyasCard.lean, 'card_holds'). Laid BY PROGRAM, IN A SANDBOX (cutbox-door.mjs). By AI agents, Wed Nov 11 2026. No macro, syntax, notation, axiom, sorry.
-/
import Derived.Test.YtjjaephhnlhnkafDoorRows
import GoSem.ClaimSeven
namespace Go.Proofs.YtjjaephhnlhnkafDoor
namespace Rows

/-- THE TIED CARD OF 'laws.FnJoining'. -/
def fnJoiningCard : Claim7 := { stood := { row := fnJoiningRow, standIns := [], harness := (true, "ca23ccff1ffced63350940e00de7db32305647d73f09000872c1c0c22537f290"), looks := false }, kinds := [], alts := [], laidByText := true, laidKinds := [.data, .data, .data], laidTests := true, laidLooks := .later }
def FnJoiningCardSaid : Prop := Claim7.holds Tryd.pinned (.plain (OpenSpec.ofChange fnJoiningSpec)) fnJoiningCard

/-- THE SECOND FORM's CARD OF 'laws.FnJoining'. -/
def fnJoiningUptoCard : Claim7 := { stood := { row := fnJoiningUptoRow, standIns := [], harness := (true, "ca23ccff1ffced63350940e00de7db32305647d73f09000872c1c0c22537f290"), looks := false }, kinds := [], alts := [], laidByText := true, laidKinds := [.data, .data, .data], laidTests := true, laidLooks := .later }
def FnJoiningUptoCardSaid : Prop := Claim7.holds Tryd.pinned (.plain (OpenSpec.upto fnJoiningSpec)) fnJoiningUptoCard
end Rows
end Go.Proofs.YtjjaephhnlhnkafDoor
