/-
  DERIVED. GIVEN WITH THE SEED: THE CARDS: each row of YtjjaephhnlhnkaoDoorRows.lean that lists a variable, with what it lists TIED to the program's text (the seventh form; the later family's looks); each row that meets fmt, with fmt's text TOLD by the authors' own Lean function (tested against real Go, not proved from fmt's source: count such statements apart). THE CARD IS WHAT COUNTS. Prove the row's statement (the work); the ties are given (YtjjaephhnlhnkaoDoorTie.lean); close each card by the builder's one call (the guide's Derived/Test/ToyasCard.lean, 'card_holds'). Laid BY PROGRAM, IN A SANDBOX (cutbox-door.mjs). By AI agents, Wed Nov 11 2026. No macro, syntax, notation, axiom, sorry.
-/
import Derived.Test.YtjjaephhnlhnkaoDoorRows
import GoSem.ClaimSeven
namespace Go.Proofs.YtjjaephhnlhnkaoDoor
namespace Rows

/-- THE TIED CARD OF 'laws.FnExactNewRing'. -/
def fnExactNewRingCard : Claim7 := { stood := { row := fnExactNewRingRow, standIns := [], harness := (true, "1ee2723189667ec08ebd6c21314441c4bc003509fb59b57e46cee4798ecee8b4"), looks := false }, kinds := [], alts := [], laidByText := true, laidKinds := [.data, .data, .data], laidTests := true, laidLooks := .later }
def FnExactNewRingCardSaid : Prop := Claim7.holds Tryd.pinned (.plain (OpenSpec.ofChange fnExactNewRingSpec)) fnExactNewRingCard

/-- THE SECOND FORM's CARD OF 'laws.FnExactNewRing'. -/
def fnExactNewRingUptoCard : Claim7 := { stood := { row := fnExactNewRingUptoRow, standIns := [], harness := (true, "1ee2723189667ec08ebd6c21314441c4bc003509fb59b57e46cee4798ecee8b4"), looks := false }, kinds := [], alts := [], laidByText := true, laidKinds := [.data, .data, .data], laidTests := true, laidLooks := .later }
def FnExactNewRingUptoCardSaid : Prop := Claim7.holds Tryd.pinned (.plain (OpenSpec.upto fnExactNewRingSpec)) fnExactNewRingUptoCard
end Rows
end Go.Proofs.YtjjaephhnlhnkaoDoor
