/- THE TYPES' FACTS of rows of dots, under both their names. -/
import Derived.Test.YtjjaephhnlhnkaoDots
import Derived.Test.YtjjaephhnlhnkaoBltg
namespace Go.Proofs.Ytjjaephhnlhnkao
open Go.RowKit
theorem dtY : TyZ Try.prog 25 40 dtf 2 16 dt0 (.agg #[.int .i64 0, .int .i64 0]) := ⟨Try.underlying25, Try.infoDt, by decide, rfl⟩
theorem dtYN : TyZ Try.prog 43 40 dtf 2 16 dt0 (.agg #[.int .i64 0, .int .i64 0]) := ⟨Try.underlying43, Try.infoDt, by decide, rfl⟩
end Go.Proofs.Ytjjaephhnlhnkao
