/- THE TYPES' FACTS of rows of dots, under both their names. -/
import Derived.Test.YtjjaephhnlhnkaoDoorDots
import Derived.Test.YtjjaephhnlhnkaoDoorBltg
namespace Go.Proofs.YtjjaephhnlhnkaoDoor
open Go.RowKit
theorem dtY : TyZ Tryd.prog 23 36 dtf 2 16 dt0 (.agg #[.int .i64 0, .int .i64 0]) := ⟨Tryd.underlying23, Tryd.infoDt, by decide, rfl⟩
theorem dtYN : TyZ Tryd.prog 38 36 dtf 2 16 dt0 (.agg #[.int .i64 0, .int .i64 0]) := ⟨Tryd.underlying38, Tryd.infoDt, by decide, rfl⟩
end Go.Proofs.YtjjaephhnlhnkaoDoor
