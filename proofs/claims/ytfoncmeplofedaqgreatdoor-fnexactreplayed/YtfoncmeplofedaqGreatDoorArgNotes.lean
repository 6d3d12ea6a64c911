/- HOW A LAW's ARGUMENT IS READ THAT IS A NOTE, A ROW OF NOTES. It speaks of no function of the program. -/
import Derived.Test.YtfoncmeplofedaqGreatDoorArgs
import Derived.Test.YtfoncmeplofedaqGreatDoorNtm
import Derived.Deep.Slices
import Derived.Lib.SmallJoins
namespace Go.Proofs.YtfoncmeplofedaqGreatDoor
open Go.ChangeShapes Go.WideShapes Go.ChangeAt Go.RowKit Go.Joins
theorem Tryz.cellsNote : Tryz.prog.cellsOf 38 = 3 := by kernel_rfl
/-- a note's text is the machine's -/
def NtWf (p : Nt) : Prop := p.2.2.size ≤ 9223372036854775807
set_option maxRecDepth 100000 in
theorem arg_note {H : Type} {enc : TypeId × Value → H} {w : World} {base : Nat} {spare : Nat → Bool} {held : Bool} {r : Reach} {b0 : Nat} {v : Value} {d : DataW H} {p : List MemPlace}
    (hv : Value.okWide Tryz.prog w r b0 38 v) (h : DataW.Trod enc Tryz.prog w base spare held 38 v d p) :
    ∃ (x y : Int) (t : ByteArray), v = .agg #[.int .i64 x, .int .i64 y, .string t] ∧ t.size ≤ 9223372036854775807 := by
  obtain ⟨c0, c1, c2, y0, y1, y2, m, rfl, rfl, rfl, hy0, hy1, hy2⟩ := open_agg3 Tryz.underlying38 (by kernel_rfl) Tryz.cellsNote hv h
  obtain ⟨x, e0, _, wx⟩ := DataW.trod_int Tryz.underlying2 hy0
  obtain ⟨y, e1, _, wy⟩ := DataW.trod_int Tryz.underlying2 hy1
  obtain ⟨t, e2, _, wt⟩ := DataW.trod_string Tryz.underlying9 hy2
  simp at e0 e1 e2
  subst e0 e1 e2
  exact ⟨x, y, t, rfl, wt⟩
theorem Tryz.cellsIN : Tryz.prog.cellsOf 2 = 1 := by kernel_rfl
theorem Tryz.cellsSN : Tryz.prog.cellsOf 9 = 1 := by kernel_rfl
set_option maxRecDepth 100000 in
theorem open_note {H : Type} {enc : TypeId × Value → H} {w : World} {base : Nat} {spare : Nat → Bool} {held : Bool} {fuel : Nat} {cs : List Value} {x : DataW H × List MemPlace}
    (h : DataW.trod enc Tryz.prog w base spare held fuel 38 cs = some x) : ∃ p : Nt, cs = ntf p ∧ NtWf p := by
  obtain ⟨xs, k, _, _, hlen, hxl, hf⟩ := DataW.trod_struct Tryz.underlying38 h
  rw [Tryz.cellsNote] at hlen
  match xs, hxl, cs, hlen with
  | [y0, y1, y2], _, [v0, v1, v2], _ =>
    have g0 := hf 0 _ rfl
    have g1 := hf 1 _ rfl
    have g2 := hf 2 _ rfl
    simp [Tryz.cellsIN, Tryz.cellsSN] at g0 g1 g2
    obtain ⟨d, e0, _, w0⟩ := DataW.trod_int Tryz.underlying2 g0
    obtain ⟨s, e1, _, w1⟩ := DataW.trod_int Tryz.underlying2 g1
    obtain ⟨t, e2, _, w2⟩ := DataW.trod_string Tryz.underlying9 g2
    simp only [List.cons.injEq, and_true] at e0 e1 e2
    subst e0 e1 e2
    exact ⟨(d, s, t), rfl, w2⟩
set_option maxRecDepth 100000 in
theorem arg_notes {H : Type} {enc : TypeId × Value → H} {w : World} {base : Nat} {spare : Nat → Bool} {held : Bool} {a : Option Addr} {len cap : Nat} {d : DataW H} {p : List MemPlace}
    (h : DataW.Trod enc Tryz.prog w base spare held 22 (.slice a len cap) d p) :
    ∃ zs : List Nt, RdG ntf 3 w (.slice a len cap) zs ∧ ((∀ s ∈ zs, NtWf s) ∧ zs.length ≤ 9223372036854775807) := by
  obtain ⟨fuel, hf⟩ := h
  rcases Deep.open_slice Tryz.underlying22 hf with ⟨hcs, _⟩ | ⟨x, l, c, m, n, D, Pl, hcs, hb, hl, hm, hmm, _, hcell⟩
  · simp [Value.cells] at hcs
    obtain ⟨rfl, rfl, rfl⟩ := hcs
    exact ⟨[], ⟨none, 0, rfl, Nat.le_refl _, fun h => absurd rfl h⟩, (fun x hx => absurd hx List.not_mem_nil), Nat.zero_le _⟩
  · simp [Value.cells] at hcs
    obtain ⟨rfl, rfl, rfl⟩ := hcs
    have hlm : len ≤ m := by rw [hmm]; split <;> omega
    have each : ∀ i, i < m → ∃ q : Nt, NtWf q ∧ ∀ j u, (ntf q)[j]? = some u → w.cell? (x.add (i * 3 + j)) = some u := fun i hi => by
      obtain ⟨cs', h1, h2⟩ := hcell i hi
      rw [Tryz.cellsNote] at h1
      obtain ⟨_, _, hc⟩ := World.cells?_some h1
      obtain ⟨q, rfl, hw⟩ := open_note h2
      refine ⟨q, hw, fun j u hu => ?_⟩
      have hj : j < 3 := by
        have := (List.getElem?_eq_some_iff.1 hu).1
        simpa [ntf] using this
      have e := hc j hj
      rw [Deep.add_add] at e
      rw [e]
      exact hu
    obtain ⟨q, hq⟩ := Deep.choose_lt each
    unfold maxLen at hm
    have hlen : ((List.range len).map q).length = len := by simp
    refine ⟨(List.range len).map q, ⟨some x, cap, by rw [hlen], by rw [hlen]; exact hl, fun hne => ?_⟩, fun s hs => ?_, by rw [hlen]; omega⟩
    · have hpos : 0 < len := by
        cases len with
        | zero => exact absurd rfl hne
        | succ l => omega
      have c0 := (hq 0 (by omega)).2 0 _ rfl
      obtain ⟨b, off, spot⟩ := x
      have hspot : spot = none := by simpa [Addr.add] using World.cell?_spot c0
      subst hspot
      refine ⟨b, off, rfl, World.block_lt_of_cell? w ⟨b, off, none⟩ (by simpa [Addr.add] using c0), fun j hj i u hu => ?_⟩
      rw [hlen] at hj
      rw [List.getElem_map, List.getElem_range] at hu
      have e := (hq j (by omega)).2 i u hu
      rw [show (⟨b, off, none⟩ : Addr).add (j * 3 + i) = ⟨b, off + (j * 3 + i), none⟩ from Addr.add_lit .., ← Nat.add_assoc] at e
      exact e
    · obtain ⟨i, hi, rfl⟩ := List.mem_map.1 hs
      exact (hq i (by have := List.mem_range.1 hi; omega)).1
end Go.Proofs.YtfoncmeplofedaqGreatDoor
