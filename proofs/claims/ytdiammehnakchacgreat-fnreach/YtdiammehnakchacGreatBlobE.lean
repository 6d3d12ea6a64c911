/- THE LAWS' OWN READERS OVER ROWS OF BLOBS: eqBlobS (of two that are alike), likeBlobs. -/
import Derived.Test.YtdiammehnakchacGreatBlobS
import Derived.Test.YtdiammehnakchacGreatDig
namespace Go.Proofs.YtdiammehnakchacGreat
open Go.RowKit
set_option linter.unusedVariables false
theorem ret_boolB {a b : Bool} (h : a = b) : Ending.returned (.bool a) = .returned (.bool b) := by rw [h]
end Go.Proofs.YtdiammehnakchacGreat
