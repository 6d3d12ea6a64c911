/- HOW A LAW's ARGUMENTS ARE READ: slices of texts, of bytes, of numbers. It speaks of no function of the program. -/
import Derived.Test.YtfoncmeplofedaqGreatDoorBuna
import Derived.ProofKit
import Derived.OpenShut
import Derived.ChangeOld
import Derived.SliceStrings
namespace Go.Proofs.YtfoncmeplofedaqGreatDoor
open Go.ChangeShapes Go.WideShapes Go.ChangeAt Go.RowKit

theorem own : ownKnob Tryz.prog.godebug = none := by kernel_rfl
theorem laidOut : laidOutB Tryz.prog = true := by kernel_rfl

theorem wf_i64 {a : Int} (h : (Lit.int .i64 a).wf = true) : -9223372036854775808 ≤ a ∧ a ≤ 9223372036854775807 := by
  simpa [Lit.wf, IntKind.min, IntKind.max, IntKind.signed, IntKind.bits] using h


theorem arg_ints (k : IntKind) {w : World} {x : Addr} {l c : Nat} {zs : List Int} (hl : l ≤ c) (hm : c ≤ maxLen) (hz : zs.length = c) (hc : ∀ i, i < zs.length → w.cell? (x.add i) = some (.int k (zs.getD i 0))) (hw : ∀ n ∈ zs, (Lit.int k n).wf = true) :
    ∃ ys : List Int, Rd w (.slice (some x) l c) (ys.map (Value.int k)) ∧ ((∀ n ∈ ys, (Lit.int k n).wf = true) ∧ ys.length ≤ 9223372036854775807) := by
  have hlen : ((zs.take l).map (Value.int k)).length = l := by simp; omega
  unfold maxLen at hm
  refine ⟨zs.take l, ⟨some x, c, by rw [hlen], by rw [hlen]; exact hl, fun hne => ?_⟩, fun s hs => hw s (List.mem_of_mem_take hs), by rw [List.length_take]; omega⟩
  have hpos : 0 < l := by
    cases l with
    | zero => exact absurd (by simp) hne
    | succ l => omega
  have h0 := hc 0 (by omega)
  obtain ⟨b, off, spot⟩ := x
  have hspot : spot = none := by simpa [Addr.add] using World.cell?_spot h0
  subst hspot
  refine ⟨b, off, rfl, World.block_lt_of_cell? w ⟨b, off, none⟩ (by simpa [Addr.add] using h0), fun j hj => ?_⟩
  rw [hlen] at hj
  have h := hc j (by omega)
  have e : (⟨b, off, none⟩ : Addr).add j = ⟨b, off + j, none⟩ := Addr.add_lit ..
  rw [e] at h
  rw [h, ints_get _ _ j (by simp; omega), take_getD _ _ _ hj]

theorem wf_bytes {zs : List Int} (h : ∀ n ∈ zs, (Lit.int .u8 n).wf = true) : Bytes zs := fun y hy => by
  simpa [Lit.wf, IntKind.min, IntKind.max, IntKind.signed, IntKind.bits] using h y hy

end Go.Proofs.YtfoncmeplofedaqGreatDoor
