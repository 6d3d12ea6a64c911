/- HOW A LAW's ARGUMENT IS READ THAT IS A ROW OF BLOBS. It speaks of no function of the program. -/
import Derived.Test.YtncmeocjiinmfalArgs
import Derived.Test.YtncmeocjiinmfalBlobs
import Derived.Deep.SlicePairs
namespace Go.Proofs.Ytncmeocjiinmfal
open Go.ChangeShapes Go.WideShapes Go.ChangeAt Go.RowKit
def txtOf : Value → ByteArray
  | .string s => s
  | _ => ByteArray.empty
theorem arg_blobs {H : Type} {enc : TypeId × Value → H} {w : World} {base : Nat} {spare : Nat → Bool} {held : Bool} {a : Option Addr} {len cap : Nat} {d : DataW H} {p : List MemPlace}
    (h : DataW.Trod enc Try.prog w base spare held 22 (.slice a len cap) d p) :
    ∃ zs : List Bl, RdB w (.slice a len cap) zs ∧ ((∀ s ∈ zs, s.2.size ≤ 9223372036854775807) ∧ zs.length ≤ 9223372036854775807) := by
  obtain ⟨fuel, hf⟩ := h
  rcases Deep.open_slice_pairs Try.underlying22 Try.underlying47 (by kernel_rfl) rfl rfl (by kernel_rfl) (by kernel_rfl) hf with ⟨hcs, _⟩ | ⟨x, l, c, m, n, V0, V1, D0, D1, P0, P1, hcs, hb, hl, hm, hmm, _, hcell⟩
  · simp [Value.cells] at hcs
    obtain ⟨rfl, rfl, rfl⟩ := hcs
    exact ⟨[], ⟨none, 0, rfl, Nat.le_refl _, fun h => absurd rfl h⟩, (fun x hx => absurd hx List.not_mem_nil), Nat.zero_le _⟩
  · simp [Value.cells] at hcs
    obtain ⟨rfl, rfl, rfl⟩ := hcs
    have hlm : len ≤ m := by rw [hmm]; split <;> omega
    have each : ∀ i, i < len → w.cell? (x.add (i * 2)) = some (.int .i64 (intOf (V0 i))) ∧ w.cell? (x.add (i * 2 + 1)) = some (.string (txtOf (V1 i))) ∧ (txtOf (V1 i)).size ≤ maxLen := fun i hi => by
      obtain ⟨c0, c1, t0, t1⟩ := hcell i (by omega)
      obtain ⟨z, e0, _, _⟩ := DataW.trod_int Try.underlying2 t0
      obtain ⟨s, e1, _, hs⟩ := DataW.trod_string Try.underlying9 t1
      simp only [List.cons.injEq, and_true] at e0 e1
      rw [c0, c1, e0, e1]
      exact ⟨rfl, rfl, hs⟩
    unfold maxLen at hm
    have hlen : ((List.range len).map fun i => ((intOf (V0 i), txtOf (V1 i)) : Bl)).length = len := by simp
    refine ⟨(List.range len).map fun i => (intOf (V0 i), txtOf (V1 i)), ⟨some x, cap, by rw [hlen], by rw [hlen]; exact hl, fun hne => ?_⟩, fun q hq => ?_, by rw [hlen]; omega⟩
    · have hpos : 0 < len := by
        cases len with
        | zero => exact absurd rfl hne
        | succ l => omega
      obtain ⟨c0, _, _⟩ := each 0 hpos
      obtain ⟨b, off, spot⟩ := x
      have hspot : spot = none := by simpa [Addr.add] using World.cell?_spot c0
      subst hspot
      refine ⟨b, off, rfl, World.block_lt_of_cell? w ⟨b, off, none⟩ (by simpa [Addr.add] using c0), fun j hj => ?_⟩
      rw [hlen] at hj
      obtain ⟨d0, d1, _⟩ := each j hj
      have e0 : (⟨b, off, none⟩ : Addr).add (j * 2) = ⟨b, off + j * 2, none⟩ := Addr.add_lit ..
      have e1 : (⟨b, off, none⟩ : Addr).add (j * 2 + 1) = ⟨b, off + j * 2 + 1, none⟩ := Addr.add_lit ..
      rw [e0] at d0
      rw [e1] at d1
      have e2 : ((List.range len).map fun i => ((intOf (V0 i), txtOf (V1 i)) : Bl)).getD j bl0 = (intOf (V0 j), txtOf (V1 j)) := by simp [List.getD, hj]
      rw [e2]
      exact ⟨d0, d1⟩
    · obtain ⟨i, hi, rfl⟩ := List.mem_map.1 hq
      have h := (each i (List.mem_range.1 hi)).2.2
      unfold maxLen at h
      exact h
end Go.Proofs.Ytncmeocjiinmfal
