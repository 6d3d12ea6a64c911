/- THE LAWS' OWN READERS OVER ROWS OF BLOBS: eqBlobS (of two that are alike), likeBlobs. -/
import Derived.Test.YtfoncmeplofedaqBlobS
import Derived.Test.YtfoncmeplofedaqDig
namespace Go.Proofs.Ytfoncmeplofedaq
open Go.RowKit
set_option linter.unusedVariables false
theorem ret_boolB {a b : Bool} (h : a = b) : Ending.returned (.bool a) = .returned (.bool b) := by rw [h]
theorem eqBlob_same (d : Int) (t : ByteArray) (w : World) :
    Calls Try.prog 89 #[.agg #[.int .i64 d, .string t], .agg #[.int .i64 d, .string t]] w fun e w' => e = .returned (.bool true) ∧ Below w.heap.size w w' := by
  have hb := ((Below.refl w.heap.size w).alloc (Nat.le_refl _) (.cells #[.int .i64 d, .string t] 80)).alloc (by simp) (.cells #[.int .i64 d, .string t] 80)
  go_enter Try.func89, Try.ntmps89
  go_wp2
  go_ret
  exact ⟨by first | rfl | simp, hb⟩
end Go.Proofs.Ytfoncmeplofedaq
