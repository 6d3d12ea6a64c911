/- THE TYPES' FACTS of rows of dots, under both their names. -/
import Derived.Test.YtjjaephhnlhnkafDoorDots
import Derived.Test.YtjjaephhnlhnkafDoorBltg
namespace Go.Proofs.YtjjaephhnlhnkafDoor
open Go.RowKit
theorem dtY : TyZ Tryd.prog 27 46 dtf 2 16 dt0 (.agg #[.int .i64 0, .int .i64 0]) := ⟨Tryd.underlying27, Tryd.infoDt, by decide, rfl⟩
theorem dtYN : TyZ Tryd.prog 39 46 dtf 2 16 dt0 (.agg #[.int .i64 0, .int .i64 0]) := ⟨Tryd.underlying39, Tryd.infoDt, by decide, rfl⟩
end Go.Proofs.YtjjaephhnlhnkafDoor
