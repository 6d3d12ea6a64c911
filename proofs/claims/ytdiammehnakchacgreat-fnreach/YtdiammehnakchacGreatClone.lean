/- CONTRACT: strings.Clone: the same bytes; of what was there nothing turns. (After the guide's own proof of its inner function, at this cut's numbers.) -/
import Derived.Test.YtdiammehnakchacGreatBasis
import Derived.Lib.Strings
import Derived.Lib.Walk
import Derived.Lib.BufferWrite
import Derived.Lib.UnsafeStr
import Derived.Lib.Hide
import Derived.Laws.MakeOwn
namespace Go.Proofs.YtdiammehnakchacGreat
open Go.RowKit

end Go.Proofs.YtdiammehnakchacGreat
