/- THE LAWS' OWN READERS OVER NOTES: szNote, toNote, of rows of them. -/
import Derived.Test.YtfoncmeplofedaqNtm
import Derived.Test.YtfoncmeplofedaqStrs
import Derived.Deep.RegionWith
import Derived.Deep.RegionHeld
import Derived.Deep.LoopGhost
import Derived.Deep.MidRow
import Derived.Lib.Hide
namespace Go.Proofs.Ytfoncmeplofedaq
open Go.RowKit
set_option linter.unusedVariables false
/-- the texts of a row of notes -/
abbrev ntTx (l : List Nt) : List ByteArray := l.map fun p => p.2.2
theorem ntTx_get {l : List Nt} {k : Nat} (h : k < l.length) : (ntTx l).getD k ByteArray.empty = (l.getD k nt0).2.2 := by simp [ntTx, List.getD, h]
theorem szNote_any (k a : Int) (t : ByteArray) (z : Int) (w : World) (hz : 0 ≤ z ∧ z ≤ 1048576) (ht : t.size ≤ 9223372036854775807) :
    Calls Try.prog 19 #[.agg #[.int .i64 k, .int .i64 a, .string t], .int .i64 z] w fun e w' => e = .returned (.int .i64 (if z - (t.size : Int) < 0 then -1 else z - (t.size : Int))) ∧ Below w.heap.size w w' := by
  have hb := (Below.refl w.heap.size w).alloc (Nat.le_refl _) (.cells #[.int .i64 k, .int .i64 a, .string t] 43)
  by_cases h : z - (t.size : Int) < 0
  · rw [if_pos h]
    go_enter Try.func19, Try.ntmps19
    go_wp2
    go_ret
    exact ⟨rfl, hb⟩
  · rw [if_neg h]
    go_enter Try.func19, Try.ntmps19
    go_wp2
    go_ret
    exact ⟨rfl, hb⟩
theorem toNote_any (k a : Int) (t : ByteArray) (w : World) :
    Calls Try.prog 21 #[.agg #[.int .i64 k, .int .i64 a, .string t]] w fun e w' => e = .returned (.agg #[.int .i64 k, .int .i64 a, .string t]) ∧ Below w.heap.size w w' := by
  have hb := (((Below.refl w.heap.size w).alloc (Nat.le_refl _) (.cells #[.int .i64 k, .int .i64 a, .string t] 43)).alloc (by simp) (.cells #[.int .i64 k, .int .i64 a, .string t] 46)).alloc (by simp; omega) (.cells #[.int .i64 k, .int .i64 a, .string t] 46)
  go_enter Try.func21, Try.ntmps21
  go_wp2
  exact bodyPost_ret (v := .agg #[.int .i64 k, .int .i64 a, .string t]) (by simp [results, Try.results21, go_sem]) rfl ⟨rfl, hb⟩
abbrev ntZ : Nt := (0, 0, ⟨#[]⟩)
theorem made_notes (n : Nat) : (madeCells (Value.agg #[.int .i64 0, .int .i64 0, .string ⟨#[]⟩]).cells (n * 3)).toList = rowC ntf (List.replicate n ntZ) := made_G ntW (z := Value.agg #[.int .i64 0, .int .i64 0, .string ⟨#[]⟩]) rfl n
end Go.Proofs.Ytfoncmeplofedaq
