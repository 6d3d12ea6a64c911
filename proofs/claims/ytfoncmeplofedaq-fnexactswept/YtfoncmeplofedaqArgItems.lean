/- HOW A LAW's ARGUMENT IS READ THAT IS A ROW OF ITEMS, A SHELF. It speaks of no function of the program. -/
import Derived.Test.YtfoncmeplofedaqArgs
import Derived.Test.YtfoncmeplofedaqItm
import Derived.Deep.Slices
import Derived.Lib.SmallJoins
namespace Go.Proofs.Ytfoncmeplofedaq
open Go.ChangeShapes Go.WideShapes Go.ChangeAt Go.RowKit Go.Joins
theorem Try.cellsItem : Try.prog.cellsOf 78 = 5 := by kernel_rfl
theorem Try.cellsBlob : Try.prog.cellsOf 76 = 2 := by kernel_rfl
theorem Try.cellsI : Try.prog.cellsOf 2 = 1 := by kernel_rfl
theorem Try.cellsS : Try.prog.cellsOf 9 = 1 := by kernel_rfl
theorem Try.cellsB : Try.prog.cellsOf 4 = 1 := by kernel_rfl
theorem Try.cellsShelf : Try.prog.cellsOf 24 = 2 := by kernel_rfl
/-- an item's numbers and text are the machine's -/
def ItWf (p : It) : Prop := (Lit.int .i64 p.1).wf = true ∧ p.2.1.size ≤ 9223372036854775807 ∧ (Lit.int .i64 p.2.2.1).wf = true ∧ (Lit.int .i64 p.2.2.2.1).wf = true
set_option maxRecDepth 100000 in
theorem open_item {H : Type} {enc : TypeId × Value → H} {w : World} {base : Nat} {spare : Nat → Bool} {held : Bool} {fuel : Nat} {cs : List Value} {x : DataW H × List MemPlace}
    (h : DataW.trod enc Try.prog w base spare held fuel 78 cs = some x) : ∃ p : It, cs = itf p ∧ ItWf p := by
  obtain ⟨xs, k, _, _, hlen, hxl, hf⟩ := DataW.trod_struct Try.underlying78 h
  rw [Try.cellsItem] at hlen
  match xs, hxl, cs, hlen with
  | [y0, y1, y2, y3], _, [v0, v1, v2, v3, v4], _ =>
    have g0 := hf 0 _ rfl
    have g1 := hf 1 _ rfl
    have g2 := hf 2 _ rfl
    have g3 := hf 3 _ rfl
    simp [Try.cellsBlob, Try.cellsI, Try.cellsB] at g0 g1 g2 g3
    obtain ⟨zs, k2, _, _, hlen2, hzl, hf2⟩ := DataW.trod_struct Try.underlying76 g0
    match zs, hzl with
    | [z0, z1], _ =>
      have q0 := hf2 0 _ rfl
      have q1 := hf2 1 _ rfl
      simp [Try.cellsI, Try.cellsS] at q0 q1
      obtain ⟨d, e0, _, w0⟩ := DataW.trod_int Try.underlying2 q0
      obtain ⟨t, e1, _, w1⟩ := DataW.trod_string Try.underlying9 q1
      obtain ⟨s, e2, _, w2⟩ := DataW.trod_int Try.underlying2 g1
      obtain ⟨kk, e3, _, w3⟩ := DataW.trod_int Try.underlying2 g2
      obtain ⟨u, e4, _⟩ := DataW.trod_bool Try.underlying4 g3
      simp only [List.cons.injEq, and_true] at e0 e1 e2 e3 e4
      subst e0 e1 e2 e3 e4
      exact ⟨(d, t, s, kk, u), rfl, w0, w1, w2, w3⟩
set_option maxRecDepth 100000 in
theorem arg_items {H : Type} {enc : TypeId × Value → H} {w : World} {base : Nat} {spare : Nat → Bool} {held : Bool} {a : Option Addr} {len cap : Nat} {d : DataW H} {p : List MemPlace}
    (h : DataW.Trod enc Try.prog w base spare held 22 (.slice a len cap) d p) :
    ∃ zs : List It, RdG itf 5 w (.slice a len cap) zs ∧ ((∀ s ∈ zs, ItWf s) ∧ zs.length ≤ 9223372036854775807) := by
  obtain ⟨fuel, hf⟩ := h
  rcases Deep.open_slice Try.underlying22 hf with ⟨hcs, _⟩ | ⟨x, l, c, m, n, D, Pl, hcs, hb, hl, hm, hmm, _, hcell⟩
  · simp [Value.cells] at hcs
    obtain ⟨rfl, rfl, rfl⟩ := hcs
    exact ⟨[], ⟨none, 0, rfl, Nat.le_refl _, fun h => absurd rfl h⟩, (fun x hx => absurd hx List.not_mem_nil), Nat.zero_le _⟩
  · simp [Value.cells] at hcs
    obtain ⟨rfl, rfl, rfl⟩ := hcs
    have hlm : len ≤ m := by rw [hmm]; split <;> omega
    have each : ∀ i, i < m → ∃ q : It, ItWf q ∧ ∀ j u, (itf q)[j]? = some u → w.cell? (x.add (i * 5 + j)) = some u := fun i hi => by
      obtain ⟨cs', h1, h2⟩ := hcell i hi
      rw [Try.cellsItem] at h1
      obtain ⟨_, _, hc⟩ := World.cells?_some h1
      obtain ⟨q, rfl, hw⟩ := open_item h2
      refine ⟨q, hw, fun j u hu => ?_⟩
      have hj : j < 5 := by
        have := (List.getElem?_eq_some_iff.1 hu).1
        simpa [itf] using this
      have e := hc j hj
      rw [Deep.add_add] at e
      rw [e]
      exact hu
    obtain ⟨q, hq⟩ := Deep.choose_lt each
    unfold maxLen at hm
    have hlen : ((List.range len).map q).length = len := by simp
    refine ⟨(List.range len).map q, ⟨some x, cap, by rw [hlen], by rw [hlen]; exact hl, fun hne => ?_⟩, fun s hs => ?_, by rw [hlen]; omega⟩
    · have hpos : 0 < len := by
        cases len with
        | zero => exact absurd rfl hne
        | succ l => omega
      have c0 := (hq 0 (by omega)).2 0 _ rfl
      obtain ⟨b, off, spot⟩ := x
      have hspot : spot = none := by simpa [Addr.add] using World.cell?_spot c0
      subst hspot
      refine ⟨b, off, rfl, World.block_lt_of_cell? w ⟨b, off, none⟩ (by simpa [Addr.add] using c0), fun j hj i u hu => ?_⟩
      rw [hlen] at hj
      rw [List.getElem_map, List.getElem_range] at hu
      have e := (hq j (by omega)).2 i u hu
      rw [show (⟨b, off, none⟩ : Addr).add (j * 5 + i) = ⟨b, off + (j * 5 + i), none⟩ from Addr.add_lit .., ← Nat.add_assoc] at e
      exact e
    · obtain ⟨i, hi, rfl⟩ := List.mem_map.1 hs
      exact (hq i (by have := List.mem_range.1 hi; omega)).1
set_option maxRecDepth 100000 in
theorem arg_shelf {H : Type} {enc : TypeId × Value → H} {w : World} {base : Nat} {spare : Nat → Bool} {held : Bool} {r : Reach} {b0 : Nat} {v : Value} {d : DataW H} {p : List MemPlace}
    (hv : Value.okWide Try.prog w r b0 24 v) (h : DataW.Trod enc Try.prog w base spare held 24 v d p) :
    ∃ (x : Int) (va : Value) (zs : List It), v = .agg #[.int .i64 x, va] ∧ RdG itf 5 w va zs ∧ (∀ s ∈ zs, ItWf s) ∧ zs.length ≤ 9223372036854775807 ∧ (Lit.int .i64 x).wf = true := by
  obtain ⟨c0, c1, y0, y1, m, rfl, rfl, rfl, hy0, hy1⟩ := open_agg2 Try.underlying24 (by kernel_rfl) Try.cellsShelf hv h
  obtain ⟨x, e0, _, wx⟩ := DataW.trod_int Try.underlying2 hy0
  have hs : ∃ a len cap, c1 = .slice a len cap := by
    rcases Deep.open_slice Try.underlying22 hy1 with ⟨hcs, _⟩ | ⟨a, l, c, _, _, _, _, hcs, _⟩
    · simp at hcs; exact ⟨_, _, _, hcs⟩
    · simp at hcs; exact ⟨_, _, _, hcs⟩
  obtain ⟨a, len, cap, rfl⟩ := hs
  simp at e0
  subst e0
  obtain ⟨zs, h1, h2, h3⟩ := arg_items (d := y1.1) (p := y1.2) ⟨m, hy1⟩
  exact ⟨x, _, zs, rfl, h1, h2, h3, wx⟩
end Go.Proofs.Ytfoncmeplofedaq
