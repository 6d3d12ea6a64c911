/- THE LAWS' OWN READERS OVER ROWS OF BLOBS: szBlobS, toBlobS, eqBlobS (of two that are alike), likeBlobs. -/
import Derived.Test.YtfoncmeplofedaqBlobs
import Derived.Test.YtfoncmeplofedaqStrs
import Derived.Deep.RegionWith
import Derived.Deep.RegionHeld
namespace Go.Proofs.Ytfoncmeplofedaq
open Go.RowKit
set_option linter.unusedVariables false
abbrev txs (l : List Bl) : List ByteArray := l.map Prod.snd
theorem txs_get {l : List Bl} {k : Nat} (h : k < l.length) : (txs l).getD k ByteArray.empty = (l.getD k bl0).2 := by simp [txs, List.getD, h]

theorem szBlob_any (d : Int) (t : ByteArray) (z : Int) (w : World) (hz : 0 ≤ z ∧ z ≤ 1048576) (ht : t.size ≤ 9223372036854775807) :
    Calls Try.prog 78 #[.agg #[.int .i64 d, .string t], .int .i64 z] w fun e w' => e = .returned (.int .i64 (if z - (t.size : Int) < 0 then -1 else z - (t.size : Int))) ∧ Below w.heap.size w w' := by
  have hb := (Below.refl w.heap.size w).alloc (Nat.le_refl _) (.cells #[.int .i64 d, .string t] 76)
  by_cases h : z - (t.size : Int) < 0
  · rw [if_pos h]
    go_enter Try.func78, Try.ntmps78
    go_wp2
    go_ret
    exact ⟨rfl, hb⟩
  · rw [if_neg h]
    go_enter Try.func78, Try.ntmps78
    go_wp2
    go_ret
    exact ⟨rfl, hb⟩
theorem toBlob_any (d : Int) (t : ByteArray) (w : World) :
    Calls Try.prog 79 #[.agg #[.int .i64 d, .string t]] w fun e w' => e = .returned (.agg #[.int .i64 d, .string t]) ∧ Below w.heap.size w w' := by
  have hb := (((Below.refl w.heap.size w).alloc (Nat.le_refl _) (.cells #[.int .i64 d, .string t] 76)).alloc (by simp) (.cells #[.int .i64 d, .string t] 80)).alloc (by simp; omega) (.cells #[.int .i64 d, .string t] 80)
  go_enter Try.func79, Try.ntmps79
  go_wp2
  exact bodyPost_ret (v := .agg #[.int .i64 d, .string t]) (by simp [results, Try.results79, go_sem]) rfl ⟨rfl, hb⟩
abbrev blZ : Bl := (0, ⟨#[]⟩)
theorem made_blobs (n : Nat) : (madeCells (Value.agg #[.int .i64 0, .string ⟨#[]⟩]).cells (n * 2)).toList = blC (List.replicate n blZ) := by
  have e : ∀ m, (madeCells (Value.agg #[.int .i64 0, .string ⟨#[]⟩]).cells m).toList = (List.range m).map fun i => (#[Value.int .i64 0, Value.string ⟨#[]⟩])[i % 2]! := fun m => by simp [madeCells, Value.cells]
  rw [e]
  induction n with
  | zero => rfl
  | succ n ih =>
    rw [show (n + 1) * 2 = n * 2 + 1 + 1 by omega, List.range_succ, List.range_succ, List.map_append, List.map_append, ih, List.replicate_succ', blC_append, List.append_assoc]
    congr 1
    simp only [List.map_cons, List.map_nil, show n * 2 % 2 = 0 by omega, show (n * 2 + 1) % 2 = 1 by omega]
    rfl
theorem made_blobs2 (n : Nat) : (madeCells #[.int .i64 0, .string ⟨#[]⟩] (n * 2)).toList = blC (List.replicate n blZ) := made_blobs n
theorem copied_step {l : List Bl} {n k : Nat} (h : k < l.length) (hn : k < n) (z : Bl) : (l.take k ++ List.replicate (n - k) z).set k (l.getD k bl0) = l.take (k + 1) ++ List.replicate (n - (k + 1)) z := by
  have e1 : n - k = (n - (k + 1)) + 1 := by omega
  have e2 : (l.take k).length = k := by rw [List.length_take]; omega
  rw [e1, List.replicate_succ, List.set_append_right _ _ (by omega), e2, Nat.sub_self, List.set_cons_zero, List.take_succ_eq_append_getElem h, List.append_assoc]
  simp [List.getD, h]
theorem Try.infoBl : (Try.prog.info? 80).map (fun i => (i.zero, i.size, i.bytes)) = some (some (.agg #[.int .i64 0, .string ⟨#[]⟩]), 2, 24) := by kernel_rfl
end Go.Proofs.Ytfoncmeplofedaq
