/- CONTRACTS: the specification's l13Copy. -/
import Derived.Test.YtfoncmeplofedaqGreatDoorShF
import Derived.Deep.RegionLaw
namespace Go.Proofs.YtfoncmeplofedaqGreatDoor
open Go.RowKit
set_option linter.unusedVariables false
theorem itY : TyZ Tryz.prog 24 69 itf 5 48 itZ (.agg #[.int .i64 0, .string ⟨#[]⟩, .int .i64 0, .int .i64 0, .bool false]) := ⟨Tryz.underlying24, Tryz.infoIt, by decide, rfl⟩
end Go.Proofs.YtfoncmeplofedaqGreatDoor
