/-
  DERIVED. GIVEN WITH THE SEED: THE CARDS: each row of YtidmaaglfckcbaoDoorRows.lean that lists a variable, with what it lists TIED to the program's text (the seventh form; the later family's looks); each row that meets fmt, with fmt's text TOLD by the authors' own Lean function (tested against real Go, not proved from fmt's source: count such statements apart). THE CARD IS WHAT COUNTS. Prove the row's statement (the work); the ties are given (YtidmaaglfckcbaoDoorTie.lean); close each card by the builder's one call (the guide's Derived/Test/ToyasCard.lean, 'card_holds'). Laid BY PROGRAM, IN A SANDBOX (cutbox-door.mjs). By AI agents, Wed Nov 11 2026. No macro, syntax, notation, axiom, sorry.
-/
import Derived.Test.YtidmaaglfckcbaoDoorRows
import GoSem.ClaimSeven
namespace Go.Proofs.YtidmaaglfckcbaoDoor
namespace Rows

/-- THE TIED CARD OF 'laws.FnExactNewRing'. -/
def fnExactNewRingCard : Claim7 := { stood := { row := fnExactNewRingRow, standIns := [], harness := (true, "a71e81bf7e5e9b57a2919bf37d46fecfce212f666a5111f801f90c8df3e29b08"), looks := false }, kinds := [], alts := [], laidByText := true, laidKinds := [.data, .data, .data], laidTests := true, laidLooks := .later }
def FnExactNewRingCardSaid : Prop := Claim7.holds Tryd.pinned (.plain (OpenSpec.ofChange fnExactNewRingSpec)) fnExactNewRingCard

/-- THE TIED CARD OF 'laws.FnExactScore'. -/
def fnExactScoreCard : Claim7 := { stood := { row := fnExactScoreRow, standIns := [], harness := (true, "a71e81bf7e5e9b57a2919bf37d46fecfce212f666a5111f801f90c8df3e29b08"), looks := false }, kinds := [], alts := [], laidByText := true, laidKinds := [.data, .data, .data], laidTests := true, laidLooks := .later }
def FnExactScoreCardSaid : Prop := Claim7.holds Tryd.pinned (.plain (OpenSpec.ofChange fnExactScoreSpec)) fnExactScoreCard

/-- THE SECOND FORM's CARD OF 'laws.FnExactNewRing'. -/
def fnExactNewRingUptoCard : Claim7 := { stood := { row := fnExactNewRingUptoRow, standIns := [], harness := (true, "a71e81bf7e5e9b57a2919bf37d46fecfce212f666a5111f801f90c8df3e29b08"), looks := false }, kinds := [], alts := [], laidByText := true, laidKinds := [.data, .data, .data], laidTests := true, laidLooks := .later }
def FnExactNewRingUptoCardSaid : Prop := Claim7.holds Tryd.pinned (.plain (OpenSpec.upto fnExactNewRingSpec)) fnExactNewRingUptoCard

/-- THE SECOND FORM's CARD OF 'laws.FnExactScore'. -/
def fnExactScoreUptoCard : Claim7 := { stood := { row := fnExactScoreUptoRow, standIns := [], harness := (true, "a71e81bf7e5e9b57a2919bf37d46fecfce212f666a5111f801f90c8df3e29b08"), looks := false }, kinds := [], alts := [], laidByText := true, laidKinds := [.data, .data, .data], laidTests := true, laidLooks := .later }
def FnExactScoreUptoCardSaid : Prop := Claim7.holds Tryd.pinned (.plain (OpenSpec.upto fnExactScoreSpec)) fnExactScoreUptoCard
end Rows
end Go.Proofs.YtidmaaglfckcbaoDoor
