/- THE TYPES' FACTS of rows of dots, under both their names. -/
import Derived.Test.YtjjaephhnlhnkacDoorDots
import Derived.Test.YtjjaephhnlhnkacDoorBltg
namespace Go.Proofs.YtjjaephhnlhnkacDoor
open Go.RowKit
theorem dtY : TyZ Tryd.prog 24 51 dtf 2 16 dt0 (.agg #[.int .i64 0, .int .i64 0]) := ⟨Tryd.underlying24, Tryd.infoDt, by decide, rfl⟩
theorem dtYN : TyZ Tryd.prog 48 51 dtf 2 16 dt0 (.agg #[.int .i64 0, .int .i64 0]) := ⟨Tryd.underlying48, Tryd.infoDt, by decide, rfl⟩
end Go.Proofs.YtjjaephhnlhnkacDoor
