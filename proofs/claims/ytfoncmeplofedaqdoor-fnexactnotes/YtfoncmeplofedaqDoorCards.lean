/-
  DERIVED. GIVEN WITH THE SEED: THE CARDS: each row of YtfoncmeplofedaqDoorRows.lean that lists a variable, with what it lists TIED to the program's text (the seventh form; the later family's looks); each row that meets fmt, with fmt's text TOLD by the authors' own Lean function (tested against real Go, not proved from fmt's source: count such statements apart). THE CARD IS WHAT COUNTS. Prove the row's statement (the work); the ties are given (YtfoncmeplofedaqDoorTie.lean); close each card by the builder's one call (the guide's Derived/Test/ToyasCard.lean, 'card_holds'). Laid BY PROGRAM, IN A SANDBOX (cutbox-door.mjs). By AI agents, Wed Nov 11 2026. No macro, syntax, notation, axiom, sorry.
-/
import Derived.Test.YtfoncmeplofedaqDoorRows
import GoSem.ClaimSeven
namespace Go.Proofs.YtfoncmeplofedaqDoor
namespace Rows

/-- THE TIED CARD OF 'laws.FnExactNotes'. -/
def fnExactNotesCard : Claim7 := { stood := { row := fnExactNotesRow, standIns := [], harness := (true, "bb3e90955f3800300bff6300f62c31b2235876b794cef20615f95918845ee030"), looks := true }, kinds := [], alts := [], laidByText := true, laidKinds := [.handle], laidTests := true, laidLooks := .later }
def FnExactNotesCardSaid : Prop := Claim7.holds Tryd.pinned (.plain (OpenSpec.ofChange fnExactNotesSpec)) fnExactNotesCard

/-- THE SECOND FORM's CARD OF 'laws.FnExactNotes'. -/
def fnExactNotesUptoCard : Claim7 := { stood := { row := fnExactNotesUptoRow, standIns := [], harness := (true, "bb3e90955f3800300bff6300f62c31b2235876b794cef20615f95918845ee030"), looks := true }, kinds := [], alts := [], laidByText := true, laidKinds := [.handle], laidTests := true, laidLooks := .later }
def FnExactNotesUptoCardSaid : Prop := Claim7.holds Tryd.pinned (.plain (OpenSpec.upto fnExactNotesSpec)) fnExactNotesUptoCard
end Rows
end Go.Proofs.YtfoncmeplofedaqDoor
