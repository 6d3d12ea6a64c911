/- THE TYPES' FACTS of rows of items, under both their names. -/
import Derived.Test.YtncmeocjiinmfapItm
import Derived.Test.YtncmeocjiinmfapIts
import Derived.Test.YtncmeocjiinmfapBltg
namespace Go.Proofs.Ytncmeocjiinmfap
open Go.RowKit
theorem itYN : TyZ Try.prog 59 46 itf 5 48 it0 (.agg #[.int .i64 0, .string ⟨#[]⟩, .int .i64 0, .int .i64 0, .bool false]) := ⟨Try.underlying59, Try.infoIt, by decide, rfl⟩
end Go.Proofs.Ytncmeocjiinmfap
