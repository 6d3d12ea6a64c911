/- THE TYPES' FACTS of rows of items, under both their names. -/
import Derived.Test.YtfoncmeplofedafBun
namespace Go.Proofs.Ytfoncmeplofedaf
open Go.RowKit
theorem itYN : TyZ Try.prog 107 43 itf 5 48 it0 (.agg #[.int .i64 0, .string ⟨#[]⟩, .int .i64 0, .int .i64 0, .bool false]) := ⟨Try.underlying107, Try.infoIt, by decide, rfl⟩
end Go.Proofs.Ytfoncmeplofedaf
