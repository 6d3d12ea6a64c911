/- THE LAWS' OWN READERS OVER ROWS OF BLOBS: szBlobS, toBlobS, eqBlobS (of two that are alike), likeBlobs. -/
import Derived.Test.YtfoncmeplofedaeBlobs
import Derived.Test.YtfoncmeplofedaeStrs
import Derived.Deep.RegionWith
import Derived.Deep.RegionHeld
namespace Go.Proofs.Ytfoncmeplofedae
open Go.RowKit
set_option linter.unusedVariables false
abbrev txs (l : List Bl) : List ByteArray := l.map Prod.snd
theorem txs_get {l : List Bl} {k : Nat} (h : k < l.length) : (txs l).getD k ByteArray.empty = (l.getD k bl0).2 := by simp [txs, List.getD, h]

abbrev blZ : Bl := (0, ⟨#[]⟩)
theorem made_blobs (n : Nat) : (madeCells (Value.agg #[.int .i64 0, .string ⟨#[]⟩]).cells (n * 2)).toList = blC (List.replicate n blZ) := by
  have e : ∀ m, (madeCells (Value.agg #[.int .i64 0, .string ⟨#[]⟩]).cells m).toList = (List.range m).map fun i => (#[Value.int .i64 0, Value.string ⟨#[]⟩])[i % 2]! := fun m => by simp [madeCells, Value.cells]
  rw [e]
  induction n with
  | zero => rfl
  | succ n ih =>
    rw [show (n + 1) * 2 = n * 2 + 1 + 1 by omega, List.range_succ, List.range_succ, List.map_append, List.map_append, ih, List.replicate_succ', blC_append, List.append_assoc]
    congr 1
    simp only [List.map_cons, List.map_nil, show n * 2 % 2 = 0 by omega, show (n * 2 + 1) % 2 = 1 by omega]
    rfl
theorem made_blobs2 (n : Nat) : (madeCells #[.int .i64 0, .string ⟨#[]⟩] (n * 2)).toList = blC (List.replicate n blZ) := made_blobs n
theorem copied_step {l : List Bl} {n k : Nat} (h : k < l.length) (hn : k < n) (z : Bl) : (l.take k ++ List.replicate (n - k) z).set k (l.getD k bl0) = l.take (k + 1) ++ List.replicate (n - (k + 1)) z := by
  have e1 : n - k = (n - (k + 1)) + 1 := by omega
  have e2 : (l.take k).length = k := by rw [List.length_take]; omega
  rw [e1, List.replicate_succ, List.set_append_right _ _ (by omega), e2, Nat.sub_self, List.set_cons_zero, List.take_succ_eq_append_getElem h, List.append_assoc]
  simp [List.getD, h]
theorem Try.infoBl : (Try.prog.info? 76).map (fun i => (i.zero, i.size, i.bytes)) = some (some (.agg #[.int .i64 0, .string ⟨#[]⟩]), 2, 24) := by kernel_rfl
end Go.Proofs.Ytfoncmeplofedae
