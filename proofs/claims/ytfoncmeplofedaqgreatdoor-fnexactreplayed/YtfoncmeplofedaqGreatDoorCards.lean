/-
  DERIVED. GIVEN WITH THE SEED: THE CARDS: each row of YtfoncmeplofedaqGreatDoorRows.lean that lists a variable, with what it lists TIED to the program's text (the seventh form; the later family's looks); each row that meets fmt, with fmt's text TOLD by the authors' own Lean function (tested against real Go, not proved from fmt's source: count such statements apart). THE CARD IS WHAT COUNTS. Prove the row's statement (the work); the ties are given (YtfoncmeplofedaqGreatDoorTie.lean); close each card by the builder's one call (the guide's Derived/Test/ToyasCard.lean, 'card_holds'). Laid BY PROGRAM, IN A SANDBOX (cutbox-door.mjs). By AI agents, Wed Nov 11 2026. No macro, syntax, notation, axiom, sorry.
-/
import Derived.Test.YtfoncmeplofedaqGreatDoorRows
import GoSem.ClaimSeven
namespace Go.Proofs.YtfoncmeplofedaqGreatDoor
namespace Rows

/-- THE TIED CARD OF 'laws.FnExactReplayed'. -/
def fnExactReplayedCard : Claim7 := { stood := { row := fnExactReplayedRow, standIns := [], harness := (true, "c976f940578d9474a9c60ad310837db26bf2ebfa15f5f2a73fccacb5e6a30104"), looks := true }, kinds := [], alts := [], laidByText := true, laidKinds := [.sentinel], laidTests := true, laidLooks := .later }
def FnExactReplayedCardSaid : Prop := Claim7.holds Tryz.pinned (.plain (OpenSpec.ofChange fnExactReplayedSpec)) fnExactReplayedCard

/-- THE SECOND FORM's CARD OF 'laws.FnExactReplayed'. -/
def fnExactReplayedUptoCard : Claim7 := { stood := { row := fnExactReplayedUptoRow, standIns := [], harness := (true, "c976f940578d9474a9c60ad310837db26bf2ebfa15f5f2a73fccacb5e6a30104"), looks := true }, kinds := [], alts := [], laidByText := true, laidKinds := [.sentinel], laidTests := true, laidLooks := .later }
def FnExactReplayedUptoCardSaid : Prop := Claim7.holds Tryz.pinned (.plain (OpenSpec.upto fnExactReplayedSpec)) fnExactReplayedUptoCard
end Rows
end Go.Proofs.YtfoncmeplofedaqGreatDoor
