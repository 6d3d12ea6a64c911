/- HOW A LAW's ARGUMENT IS READ THAT IS A ROW OF DOTS. It speaks of no function of the program. -/
import Derived.Test.YtjjaephhnlhnkaoArgs
import Derived.Test.YtjjaephhnlhnkaoDots
import Derived.Deep.SlicePairs
namespace Go.Proofs.Ytjjaephhnlhnkao
open Go.ChangeShapes Go.WideShapes Go.ChangeAt Go.RowKit
theorem arg_dots {H : Type} {enc : TypeId × Value → H} {w : World} {base : Nat} {spare : Nat → Bool} {held : Bool} {a : Option Addr} {len cap : Nat} {d : DataW H} {p : List MemPlace}
    (h : DataW.Trod enc Try.prog w base spare held 22 (.slice a len cap) d p) :
    ∃ zs : List Dt, RdG dtf 2 w (.slice a len cap) zs ∧ ((∀ s ∈ zs, (Lit.int .i64 s.1).wf = true ∧ (Lit.int .i64 s.2).wf = true) ∧ zs.length ≤ 9223372036854775807) := by
  obtain ⟨fuel, hf⟩ := h
  rcases Deep.open_slice_pairs Try.underlying22 Try.underlying42 (by kernel_rfl) rfl rfl (by kernel_rfl) (by kernel_rfl) hf with ⟨hcs, _⟩ | ⟨x, l, c, m, n, V0, V1, D0, D1, P0, P1, hcs, hb, hl, hm, hmm, _, hcell⟩
  · simp [Value.cells] at hcs
    obtain ⟨rfl, rfl, rfl⟩ := hcs
    exact ⟨[], ⟨none, 0, rfl, Nat.le_refl _, fun h => absurd rfl h⟩, (fun x hx => absurd hx List.not_mem_nil), Nat.zero_le _⟩
  · simp [Value.cells] at hcs
    obtain ⟨rfl, rfl, rfl⟩ := hcs
    have hlm : len ≤ m := by rw [hmm]; split <;> omega
    have each : ∀ i, i < len → w.cell? (x.add (i * 2)) = some (.int .i64 (intOf (V0 i))) ∧ w.cell? (x.add (i * 2 + 1)) = some (.int .i64 (intOf (V1 i))) ∧ (Lit.int .i64 (intOf (V0 i))).wf = true ∧ (Lit.int .i64 (intOf (V1 i))).wf = true := fun i hi => by
      obtain ⟨c0, c1, t0, t1⟩ := hcell i (by omega)
      obtain ⟨z, e0, _, hw0⟩ := DataW.trod_int Try.underlying2 t0
      obtain ⟨s, e1, _, hw1⟩ := DataW.trod_int Try.underlying2 t1
      simp only [List.cons.injEq, and_true] at e0 e1
      rw [c0, c1, e0, e1]
      exact ⟨rfl, rfl, hw0, hw1⟩
    unfold maxLen at hm
    have hlen : ((List.range len).map fun i => ((intOf (V0 i), intOf (V1 i)) : Dt)).length = len := by simp
    refine ⟨(List.range len).map fun i => (intOf (V0 i), intOf (V1 i)), ⟨some x, cap, by rw [hlen], by rw [hlen]; exact hl, fun hne => ?_⟩, fun q hq => ?_, by rw [hlen]; omega⟩
    · have hpos : 0 < len := by
        cases len with
        | zero => exact absurd rfl hne
        | succ l => omega
      obtain ⟨c0, _, _⟩ := each 0 hpos
      obtain ⟨b, off, spot⟩ := x
      have hspot : spot = none := by simpa [Addr.add] using World.cell?_spot c0
      subst hspot
      refine ⟨b, off, rfl, World.block_lt_of_cell? w ⟨b, off, none⟩ (by simpa [Addr.add] using c0), fun j hj i u hu => ?_⟩
      rw [hlen] at hj
      obtain ⟨d0, d1, _⟩ := each j hj
      have e0 : (⟨b, off, none⟩ : Addr).add (j * 2) = ⟨b, off + j * 2, none⟩ := Addr.add_lit ..
      have e1 : (⟨b, off, none⟩ : Addr).add (j * 2 + 1) = ⟨b, off + j * 2 + 1, none⟩ := Addr.add_lit ..
      rw [e0] at d0
      rw [e1] at d1
      rw [List.getElem_map, List.getElem_range] at hu
      match i, hu with
      | 0, hu => simp only [dtf, List.getElem?_cons_zero, Option.some.injEq] at hu; subst hu; exact d0
      | 1, hu => simp only [dtf, List.getElem?_cons_succ, List.getElem?_cons_zero, Option.some.injEq] at hu; subst hu; exact d1
      | i + 2, hu => simp [dtf] at hu
    · obtain ⟨i, hi, rfl⟩ := List.mem_map.1 hq
      exact (each i (List.mem_range.1 hi)).2.2
end Go.Proofs.Ytjjaephhnlhnkao
