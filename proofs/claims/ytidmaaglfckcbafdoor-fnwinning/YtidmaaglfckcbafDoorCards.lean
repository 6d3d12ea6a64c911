/-
  DERIVED. GIVEN WITH THE SEED: THE CARDS: each row of YtidmaaglfckcbafDoorRows.lean that lists a variable, with what it lists TIED to the program's text (the seventh form; the later family's looks); each row that meets fmt, with fmt's text TOLD by the authors' own Lean function (tested against real Go, not proved from fmt's source: count such statements apart). THE CARD IS WHAT COUNTS. Prove the row's statement (the work); the ties are given (YtidmaaglfckcbafDoorTie.lean); close each card by the builder's one call (the guide's Derived/Test/ToyasCard.lean, 'card_holds'). Laid BY PROGRAM, IN A SANDBOX (cutbox-door.mjs). By AI agents, Wed Nov 11 2026. No macro, syntax, notation, axiom, sorry.
-/
import Derived.Test.YtidmaaglfckcbafDoorRows
import GoSem.ClaimSeven
namespace Go.Proofs.YtidmaaglfckcbafDoor
namespace Rows

/-- THE TIED CARD OF 'laws.FnJoining'. -/
def fnJoiningCard : Claim7 := { stood := { row := fnJoiningRow, standIns := [], harness := (true, "c48a03f02261a15d809823d8644abe1c5e79c5a759dcfb7b4ee0d5e336353707"), looks := false }, kinds := [], alts := [], laidByText := true, laidKinds := [.data, .data, .data], laidTests := true, laidLooks := .later }
def FnJoiningCardSaid : Prop := Claim7.holds Tryd.pinned (.plain (OpenSpec.ofChange fnJoiningSpec)) fnJoiningCard

/-- THE TIED CARD OF 'laws.FnWinning'. -/
def fnWinningCard : Claim7 := { stood := { row := fnWinningRow, standIns := [], harness := (true, "c48a03f02261a15d809823d8644abe1c5e79c5a759dcfb7b4ee0d5e336353707"), looks := false }, kinds := [], alts := [], laidByText := true, laidKinds := [.data, .data, .data], laidTests := true, laidLooks := .later }
def FnWinningCardSaid : Prop := Claim7.holds Tryd.pinned (.plain (OpenSpec.ofChange fnWinningSpec)) fnWinningCard

/-- THE SECOND FORM's CARD OF 'laws.FnJoining'. -/
def fnJoiningUptoCard : Claim7 := { stood := { row := fnJoiningUptoRow, standIns := [], harness := (true, "c48a03f02261a15d809823d8644abe1c5e79c5a759dcfb7b4ee0d5e336353707"), looks := false }, kinds := [], alts := [], laidByText := true, laidKinds := [.data, .data, .data], laidTests := true, laidLooks := .later }
def FnJoiningUptoCardSaid : Prop := Claim7.holds Tryd.pinned (.plain (OpenSpec.upto fnJoiningSpec)) fnJoiningUptoCard

/-- THE SECOND FORM's CARD OF 'laws.FnWinning'. -/
def fnWinningUptoCard : Claim7 := { stood := { row := fnWinningUptoRow, standIns := [], harness := (true, "c48a03f02261a15d809823d8644abe1c5e79c5a759dcfb7b4ee0d5e336353707"), looks := false }, kinds := [], alts := [], laidByText := true, laidKinds := [.data, .data, .data], laidTests := true, laidLooks := .later }
def FnWinningUptoCardSaid : Prop := Claim7.holds Tryd.pinned (.plain (OpenSpec.upto fnWinningSpec)) fnWinningUptoCard
end Rows
end Go.Proofs.YtidmaaglfckcbafDoor
