/- THE TYPES' FACTS of rows of items, under both their names. -/
import Derived.Test.YtncmeocjiinmfaqItm
import Derived.Test.YtncmeocjiinmfaqIts
import Derived.Test.YtncmeocjiinmfaqBltg
namespace Go.Proofs.Ytncmeocjiinmfaq
open Go.RowKit
theorem itYN : TyZ Try.prog 88 63 itf 5 48 it0 (.agg #[.int .i64 0, .string ⟨#[]⟩, .int .i64 0, .int .i64 0, .bool false]) := ⟨Try.underlying88, Try.infoIt, by decide, rfl⟩
end Go.Proofs.Ytncmeocjiinmfaq
