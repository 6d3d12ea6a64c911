/- THE TYPES' FACTS of rows of items, under both their names. -/
import Derived.Test.YtncmeocjiinmfafBun
namespace Go.Proofs.Ytncmeocjiinmfaf
open Go.RowKit
theorem itYN : TyZ Try.prog 92 43 itf 5 48 it0 (.agg #[.int .i64 0, .string ⟨#[]⟩, .int .i64 0, .int .i64 0, .bool false]) := ⟨Try.underlying92, Try.infoIt, by decide, rfl⟩
end Go.Proofs.Ytncmeocjiinmfaf
