/-
  DERIVED. GIVEN WITH THE SEED: THE CARDS: each row of YtidmaaglfckcbapDoorRows.lean that lists a variable, with what it lists TIED to the program's text (the seventh form; the later family's looks); each row that meets fmt, with fmt's text TOLD by the authors' own Lean function (tested against real Go, not proved from fmt's source: count such statements apart). THE CARD IS WHAT COUNTS. Prove the row's statement (the work); the ties are given (YtidmaaglfckcbapDoorTie.lean); close each card by the builder's one call (the guide's Derived/Test/ToyasCard.lean, 'card_holds'). Laid BY PROGRAM, IN A SANDBOX (cutbox-door.mjs). By AI agents, Wed Nov 11 2026. No macro, syntax, notation, axiom, sorry.
-/
import Derived.Test.YtidmaaglfckcbapDoorRows
import GoSem.ClaimSeven
namespace Go.Proofs.YtidmaaglfckcbapDoor
namespace Rows

/-- THE TIED CARD OF 'laws.FnExactWinner'. -/
def fnExactWinnerCard : Claim7 := { stood := { row := fnExactWinnerRow, standIns := [], harness := (true, "17d27ca61a8dbebd6471f28aed95426f66c64bb6edba52ba07800844382d77c6"), looks := false }, kinds := [], alts := [], laidByText := true, laidKinds := [.data, .data, .data], laidTests := true, laidLooks := .later }
def FnExactWinnerCardSaid : Prop := Claim7.holds Tryd.pinned (.plain (OpenSpec.ofChange fnExactWinnerSpec)) fnExactWinnerCard

/-- THE TIED CARD OF 'laws.FnExactRanks'. -/
def fnExactRanksCard : Claim7 := { stood := { row := fnExactRanksRow, standIns := [], harness := (true, "17d27ca61a8dbebd6471f28aed95426f66c64bb6edba52ba07800844382d77c6"), looks := false }, kinds := [], alts := [], laidByText := true, laidKinds := [.data, .data, .data], laidTests := true, laidLooks := .later }
def FnExactRanksCardSaid : Prop := Claim7.holds Tryd.pinned (.plain (OpenSpec.ofChange fnExactRanksSpec)) fnExactRanksCard

/-- THE SECOND FORM's CARD OF 'laws.FnExactWinner'. -/
def fnExactWinnerUptoCard : Claim7 := { stood := { row := fnExactWinnerUptoRow, standIns := [], harness := (true, "17d27ca61a8dbebd6471f28aed95426f66c64bb6edba52ba07800844382d77c6"), looks := false }, kinds := [], alts := [], laidByText := true, laidKinds := [.data, .data, .data], laidTests := true, laidLooks := .later }
def FnExactWinnerUptoCardSaid : Prop := Claim7.holds Tryd.pinned (.plain (OpenSpec.upto fnExactWinnerSpec)) fnExactWinnerUptoCard

/-- THE SECOND FORM's CARD OF 'laws.FnExactRanks'. -/
def fnExactRanksUptoCard : Claim7 := { stood := { row := fnExactRanksUptoRow, standIns := [], harness := (true, "17d27ca61a8dbebd6471f28aed95426f66c64bb6edba52ba07800844382d77c6"), looks := false }, kinds := [], alts := [], laidByText := true, laidKinds := [.data, .data, .data], laidTests := true, laidLooks := .later }
def FnExactRanksUptoCardSaid : Prop := Claim7.holds Tryd.pinned (.plain (OpenSpec.upto fnExactRanksSpec)) fnExactRanksUptoCard
end Rows
end Go.Proofs.YtidmaaglfckcbapDoor
