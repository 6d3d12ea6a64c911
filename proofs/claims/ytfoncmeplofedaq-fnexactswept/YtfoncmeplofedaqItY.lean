/- THE TYPES' FACTS of rows of items, under both their names. -/
import Derived.Test.YtfoncmeplofedaqItm
import Derived.Test.YtfoncmeplofedaqIts
import Derived.Test.YtfoncmeplofedaqBltg
namespace Go.Proofs.Ytfoncmeplofedaq
open Go.RowKit
theorem itYN : TyZ Try.prog 118 82 itf 5 48 it0 (.agg #[.int .i64 0, .string ⟨#[]⟩, .int .i64 0, .int .i64 0, .bool false]) := ⟨Try.underlying118, Try.infoIt, by decide, rfl⟩
end Go.Proofs.Ytfoncmeplofedaq
