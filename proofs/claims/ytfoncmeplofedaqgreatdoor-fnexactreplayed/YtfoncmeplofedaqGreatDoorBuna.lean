/- Basic texts of this claim put together. (Written by bundles.py.) -/
import Derived.WalkKit
import Derived.OwnWalk
import Derived.Below
import Derived.WalkSmall
import Derived.Test.YtfoncmeplofedaqGreatDoorRows
import Derived.WalkLawsBesides
import Derived.BigRegion
import Derived.Laws.IdiomStrings
import Derived.Laws.ResultCell
import Derived.OneCell
import Derived.Outline
import Derived.Deep.QuietTactic
import Derived.BigQuiet
import Derived.Lib.AppendStr
import Derived.Deep.RegionLaw
import Derived.Deep.RegionHeld
import Derived.Lib.Hide
import Derived.Maps.AppendAt
import Derived.Deep.Upon
import Derived.Lib.AppendZeros
import Derived.Maps.OwnSet
import Derived.Maps.Views
import Derived.Deep.RegionWith
import Derived.Deep.LoopGhost
import Derived.Deep.MidRow
namespace Go.Proofs.YtfoncmeplofedaqGreatDoor
open Go.RowKit

theorem owns_base {w : World} {b b' : Nat} {e : TypeId} {size : Nat} {v : Value} {n : Nat} {xs : List Value} (h : w.ownsRow b e size v n xs) (hb : b' ≤ b) : w.ownsRow b' e size v n xs := by
  obtain ⟨h1, h2⟩ := h
  refine ⟨h1, ?_⟩
  rcases h2 with h2 | ⟨g, cap, cur, hv, hg, r⟩
  · exact .inl h2
  · exact .inr ⟨g, cap, cur, hv, by omega, r⟩

theorem grown_of_below {w w' : World} (h : Below w.heap.size w w') : w.grownBy w' none := ⟨h.os, h.tape, h.output, h.size, fun k hk _ => h.block k hk⟩

/-- what is owned stays owned where no old block turns -/
theorem owns_below {w w' : World} {b : Nat} {e : TypeId} {size : Nat} {v : Value} {n : Nat} {xs : List Value} (h : w.ownsRow b e size v n xs) (hb : Below w.heap.size w w') : w'.ownsRow b e size v n xs :=
  h.kept (grown_of_below hb) (by cases v.ownBlock <;> simp)

theorem grown_trans {a w w' : World} {row : Option Nat} (h : a.grownBy w row) (k : w.grownBy w' row) : a.grownBy w' row :=
  ⟨k.os.trans h.os, k.tape.trans h.tape, k.output.trans h.output, Nat.le_trans h.size k.size, fun i hi hr => (k.block i (Nat.lt_of_lt_of_le hi h.size) hr).trans (h.block i hi hr)⟩

theorem grown_drew {w w' : World} {row : Option Nat} (h : w.grownBy w' row) : w.grownBy w'.drew row := ⟨h.os, h.tape, h.output, h.size, h.block⟩

/-- what is owned stays owned where one other row is written -/
theorem owns_grown {w w' : World} {b : Nat} {e : TypeId} {size : Nat} {v : Value} {n : Nat} {xs : List Value} {row : Option Nat} (h : w.ownsRow b e size v n xs) (hb : w.grownBy w' row) (hne : ∀ k, row = some k → v.ownBlock ≠ some k) : w'.ownsRow b e size v n xs :=
  h.kept hb (by
    cases hv : v.ownBlock with
    | none => exact .inl rfl
    | some g => right; intro e'; exact hne g e'.symm hv)

/-- A SLICE WHOSE ELEMENTS, one cell each, CAN BE READ. -/
def Rd (w : World) (v : Value) (xs : List Value) : Prop :=
  ∃ ao cap, v = .slice ao xs.length cap ∧ xs.length ≤ cap ∧ (xs ≠ [] → ∃ b off, ao = some ⟨b, off, none⟩ ∧ b < w.heap.size ∧ ∀ j, j < xs.length → w.cell? ⟨b, off + j, none⟩ = xs[j]?)

theorem rd_owns {w : World} {b : Nat} {e : TypeId} {v : Value} {n : Nat} {xs : List Value} (h : w.ownsRow b e 1 v n xs) : Rd w v xs := by
  have hl := h.1
  rcases h.2 with ⟨rfl, rfl⟩ | ⟨g, cap, cur, rfl, hg, hh, hn, hm, hs, ht⟩
  · obtain rfl : xs = [] := List.eq_nil_of_length_eq_zero (by omega)
    exact ⟨none, 0, rfl, Nat.le_refl _, fun h => absurd rfl h⟩
  · obtain rfl : n = xs.length := by omega
    refine ⟨_, cap, rfl, hn, fun _ => ⟨g, 0, rfl, (Array.getElem?_eq_some_iff.1 hh).1, fun j hj => ?_⟩⟩
    rw [Nat.zero_add]
    exact h.cellAt j (by omega)

theorem rd_below {w w' : World} {v : Value} {xs : List Value} (h : Rd w v xs) (hb : Below w.heap.size w w') : Rd w' v xs := by
  obtain ⟨ao, cap, hv, hcap, hx⟩ := h
  refine ⟨ao, cap, hv, hcap, fun hne => ?_⟩
  obtain ⟨b, off, ha, hlt, hc⟩ := hx hne
  exact ⟨b, off, ha, Nat.lt_of_lt_of_le hlt hb.size, fun j hj => (hb.cell (p := ⟨b, off + j, none⟩) hlt).trans (hc j hj)⟩

/-- below a number of blocks that is at most the heap's -/
theorem rd_below' {B : Nat} {w w' : World} {v : Value} {xs : List Value} (h : Rd w v xs) (hb : Below B w w') (hB : w.heap.size ≤ B) : Rd w' v xs := rd_below h (hb.mono hB)

/-- THE WALK's VIEW OF IT: either there is nothing, or the cells lie at b, off. -/
theorem rd_cases {w : World} {v : Value} {xs : List Value} (h : Rd w v xs) :
    (xs = [] ∧ ∃ ao cap, v = .slice ao 0 cap) ∨ (0 < xs.length ∧ ∃ b off cap, v = .slice (some ⟨b, off, none⟩) xs.length cap ∧ xs.length ≤ cap ∧ b < w.heap.size ∧ ∀ j, j < xs.length → w.cell? ⟨b, off + j, none⟩ = xs[j]?) := by
  obtain ⟨ao, cap, hv, hcap, hx⟩ := h
  cases xs with
  | nil => exact .inl ⟨rfl, ao, cap, hv⟩
  | cons x r =>
    obtain ⟨b, off, rfl, hlt, hc⟩ := hx (by simp)
    exact .inr ⟨by simp, b, off, cap, hv, hcap, hlt, hc⟩

/-- a list of numbers as cells -/
theorem ints_get (k : IntKind) (zs : List Int) (j : Nat) (h : j < zs.length) : (zs.map (Value.int k))[j]? = some (.int k (zs.getD j 0)) := by
  simp [List.getD, h]

theorem take_snoc {α : Type} (zs : List α) (d : α) (k : Nat) (hk : k < zs.length) : zs.take (k + 1) = zs.take k ++ [zs.getD k d] := by
  rw [List.take_add_one, List.getElem?_eq_getElem hk, List.getD, List.getElem?_eq_getElem hk]; rfl

abbrev cellsByteS (xs : List Int) : List Value := xs.map (Value.int .u8)
abbrev cellsInt64S (xs : List Int) : List Value := xs.map (Value.int .i64)
abbrev cellsS (xs : List ByteArray) : List Value := xs.map Value.string
theorem strs_get (zs : List ByteArray) (j : Nat) (h : j < zs.length) : (zs.map Value.string)[j]? = some (.string (zs.getD j ByteArray.empty)) := by
  simp [List.getD, h]

/-- w' is w but for the block cb and what is new, w1 grows out of w' writing a row of its own -/
theorem grown_own {w wr w' : World} {cb : Nat} {row : Option Nat} (h : w.grownBy wr (some cb)) (k : wr.grownBy w' row) (hr : ∀ g, row = some g → w.heap.size ≤ g) : w.grownBy w' (some cb) :=
  ⟨k.os.trans h.os, k.tape.trans h.tape, k.output.trans h.output, Nat.le_trans h.size k.size, fun i hi hne => (k.block i (Nat.lt_of_lt_of_le hi h.size) (fun e => by have := hr i e.symm; omega)).trans (h.block i hi hne)⟩
theorem grown_below {w wr w' : World} {cb : Nat} (h : w.grownBy wr (some cb)) (k : Below wr.heap.size wr w') : w.grownBy w' (some cb) := grown_own h (grown_of_below k) (fun g hg => by cases hg)

/-- an owned row that is not empty lies at the head of a block -/
theorem owns_head {w : World} {base : Nat} {e : TypeId} {v : Value} {n : Nat} {xs : List Value} (h : w.ownsRow base e 1 v n xs) (hp : 0 < n) : ∃ g cap, v = .slice (some ⟨g, 0, none⟩) n cap ∧ v.ownBlock = some g := by
  rcases h.2 with ⟨_, h0⟩ | ⟨g, cap, cur, rfl, _⟩
  · omega
  · exact ⟨g, cap, rfl, rfl⟩

theorem owns_slice {w : World} {base : Nat} {e : TypeId} {v : Value} {n : Nat} {xs : List Value} (h : w.ownsRow base e 1 v n xs) : ∃ ao cap, v = .slice ao n cap := by
  rcases h.2 with ⟨rfl, rfl⟩ | ⟨g, cap, cur, rfl, _⟩
  · exact ⟨none, 0, rfl⟩
  · exact ⟨_, cap, rfl⟩

theorem own_new {w wr : World} (hb : Below w.heap.size w wr) (e : TypeId) : (wr.alloc (.cells #[] e)).ownsRow w.heap.size e 1 (.slice (some ⟨wr.heap.size, 0, none⟩) 0 0) 0 [] :=
  World.ownsRow_lit wr #[] 0 hb.size (Nat.zero_le _) rfl

theorem ret_int {k : IntKind} {a b : Int} (h : a = b) : Ending.returned (.int k a) = .returned (.int k b) := by rw [h]

end Go.Proofs.YtfoncmeplofedaqGreatDoor

namespace Go.Proofs.YtfoncmeplofedaqGreatDoor
open Go.RowKit

theorem Tryz.infoB : (Tryz.prog.info? 5).map (fun i => (i.zero, i.size, i.bytes)) = some (some (.int .u8 0), 1, 1) := by kernel_rfl
theorem Tryz.info64 : (Tryz.prog.info? 2).map (fun i => (i.zero, i.size, i.bytes)) = some (some (.int .i64 0), 1, 8) := by kernel_rfl
theorem one_cell (w : World) (k : IntKind) (z : Int) (t : TypeId) : ∀ j u, ([Value.int k z] : List Value)[j]? = some u → (w.alloc (.cells #[Value.int k z] t)).cell? ((⟨w.heap.size, 0, none⟩ : Addr).add j) = some u := by
  intro j u hj
  match j, hj with
  | 0, hj => simp at hj; subst hj; simp [Addr.add]

theorem drop_getD (L : List Int) (j : Nat) (h : j < L.length) : L.drop j = L.getD j 0 :: L.drop (j + 1) := by
  rw [List.drop_eq_getElem_cons h]; simp [List.getD, h]

/-- a string's bytes as numbers -/
def byts (s : ByteArray) : List Int := s.data.toList.map fun b => (b.toNat : Int)
theorem byts_len (s : ByteArray) : (byts s).length = s.size := by simp [byts]

theorem byts_get (s : ByteArray) (j : Nat) (h : j < s.data.size) : (byts s).getD j 0 = (s.data[j].toNat : Int) := by
  have h' : j < s.data.toList.length := h
  rw [List.getD, byts, List.getElem?_map, List.getElem?_eq_getElem h']
  rfl

theorem conv_cells (w : World) (t : ByteArray) (cap : Nat) (E : TypeId) (fr : Nat × Nat) : ∀ j, j < t.size → ((w.alloc (.cells (bytesRow t cap) E fr)).drew.drew).cell? ⟨w.heap.size, j, none⟩ = some (.int .u8 ((byts t).getD j 0)) := by
  intro j hj
  rw [byts_get t j hj]
  exact (World.cell?_alloc_mark w _ E fr j).trans (bytesRow_at t cap j hj)

theorem byts_range (t : ByteArray) (j : Nat) : 0 ≤ (byts t).getD j 0 ∧ (byts t).getD j 0 ≤ 255 := by
  by_cases h : j < t.data.size
  · rw [byts_get t j h]
    have := t.data[j].toNat_lt
    omega
  · have e : (byts t).getD j 0 = 0 := by
      rw [List.getD, List.getElem?_eq_none (by rw [byts_len]; exact Nat.le_of_not_lt h)]; rfl
    omega

def Bytes (zs : List Int) : Prop := ∀ x ∈ zs, 0 ≤ x ∧ x ≤ 255
theorem bytes_get {zs : List Int} (h : Bytes zs) (j : Nat) : 0 ≤ zs.getD j 0 ∧ zs.getD j 0 ≤ 255 := by
  by_cases hj : j < zs.length
  · have e : zs.getD j 0 = zs[j] := by simp [List.getD, hj]
    rw [e]; exact h _ (List.getElem_mem hj)
  · have e : zs.getD j 0 = 0 := by rw [List.getD, List.getElem?_eq_none (Nat.le_of_not_lt hj)]; rfl
    omega

theorem take_getD (zs : List Int) (n j : Nat) (h : j < n) : (zs.take n).getD j 0 = zs.getD j 0 := by
  simp [List.getD, h]

/-- numbers as a string's bytes -/
def asB (zs : List Int) : ByteArray := ⟨(zs.map fun z => UInt8.ofNat z.toNat).toArray⟩
theorem asB_size (zs : List Int) : (asB zs).size = zs.length := by simp [asB, ByteArray.size]
theorem asB_byts (zs : List Int) (h : Bytes zs) : byts (asB zs) = zs := by
  unfold byts asB
  simp only [List.map_map]
  conv => rhs; rw [← List.map_id zs]
  apply List.map_congr_left
  intro x hx
  have := h x hx
  simp only [Function.comp, id]
  show ((UInt8.ofNat x.toNat).toNat : Int) = x
  rw [UInt8.toNat_ofNat_of_lt' (show x.toNat < UInt8.size by have : UInt8.size = 256 := rfl; omega)]
  omega
theorem bytes_take {zs : List Int} (h : Bytes zs) (n : Nat) : Bytes (zs.take n) := fun x hx => h x (List.mem_of_mem_take hx)

/-- 'string(b[:k])' where b's cells are the bytes zs -/
theorem str_of (w : World) (b off cap k : Nat) (zs : List Int) (hz : Bytes zs) (hk : k ≤ zs.length)
    (hc : ∀ j, j < zs.length → w.cell? ⟨b, off + j, none⟩ = some (.int .u8 (zs.getD j 0))) :
    (convert 73 9 (.slice (some ⟨b, off, none⟩) k cap)).run Tryz.prog w = .ok (.string (asB (zs.take k))) w := by
  have h := run_convert_bytes_back (P := Tryz.prog) w 73 9 5 ⟨b, off, none⟩ cap ((zs.take k).map fun z => UInt8.ofNat z.toNat) Tryz.underlying73 Tryz.underlying5 Tryz.underlying9 (by
    intro j hj
    have hj' : j < k := by
      have h := hj
      rw [List.length_map, List.length_take] at h
      omega
    have e : (⟨b, off, none⟩ : Addr).add j = ⟨b, off + j, none⟩ := Addr.add_lit ..
    rw [e, hc j (by omega)]
    have hx := bytes_get hz j
    have e2 : zs[j]'(by omega) = zs.getD j 0 := by simp [List.getD, show j < zs.length by omega]
    simp only [List.getElem_map, List.getElem_take]
    rw [e2, UInt8.toNat_ofNat_of_lt' (show (zs.getD j 0).toNat < UInt8.size by have : UInt8.size = 256 := rfl; omega)]
    congr 2
    omega)
  have e3 : ((zs.take k).map fun z => UInt8.ofNat z.toNat).length = k := by simp; omega
  rw [e3] at h
  exact h

theorem str_nil (w : World) (ao : Option Addr) (cap : Nat) : (convert 73 9 (.slice ao 0 cap)).run Tryz.prog w = .ok (.string (asB [])) w := by
  cases ao with
  | some a => exact run_convert_bytes_back (P := Tryz.prog) w 73 9 5 a cap [] Tryz.underlying73 Tryz.underlying5 Tryz.underlying9 (by intro j hj; simp at hj)
  | none =>
    rw [run_convert_bytes_string w 73 9 5 none 0 cap Tryz.underlying73 Tryz.underlying5 Tryz.underlying9]
    rfl

theorem asB_nil : asB [] = ⟨#[]⟩ := rfl

theorem bytes_append {a b : List Int} (ha : Bytes a) (hb : Bytes b) : Bytes (a ++ b) := fun x hx => by
  rcases List.mem_append.1 hx with h | h
  · exact ha x h
  · exact hb x h
/-- 'string(row)' of an owned row of bytes -/
theorem str_own {w : World} {base : Nat} {v : Value} {zs : List Int} (h : w.ownsRow base 5 1 v zs.length (cellsByteS zs)) (hz : Bytes zs) :
    (convert 73 9 v).run Tryz.prog w = .ok (.string (asB zs)) w := by
  rcases rd_cases (rd_owns h) with ⟨h0, ao, cap, rfl⟩ | ⟨hp, b, off, cap, rfl, hcap, hlt, hc⟩
  · have hx : zs = [] := by simpa using h0
    subst hx
    exact str_nil w ao cap
  · have hla : (cellsByteS zs).length = zs.length := by simp
    rw [hla] at hc ⊢
    have hs := str_of w b off cap zs.length zs hz (Nat.le_refl _) (fun j hj => (hc j hj).trans (ints_get _ zs j hj))
    rwa [List.take_of_length_le (Nat.le_refl _)] at hs

/-- 'data[p:]' of a slice of bytes that can be read -/
theorem slice_from (b off n cap p : Nat) (hp : p ≤ n) (hc : n ≤ cap) : ∃ ao cap', n - p ≤ cap' ∧ (p < n → ao = some ⟨b, off + p, none⟩) ∧
    ∀ W : World, (Instr.slice 73 (.slice (some ⟨b, off, none⟩) n cap) (some (.int .i64 (p : Int))) none none).run Tryz.prog W = .ok (.slice ao (n - p) cap') W := by
  obtain ⟨i0, hi, hz0, hz1, hz2⟩ := info_parts Tryz.infoB
  have hel : Tryz.prog.elem 73 = 5 := by kernel_rfl
  have hsz : ∀ W : World, (sizeOf 5).run Tryz.prog W = .ok 1 W := fun W => by simp [sizeOf, typeInfo, hi, hz1]
  by_cases hcp : cap = p
  · refine ⟨some ⟨b, off, none⟩, cap - p, by omega, fun h => by omega, fun W => ?_⟩
    rw [run_slice_l W 73 _ n cap (by rw [hel]; exact Tryz.underlying73) .i64 _ (by omega) (by omega), hel, hsz]
    simp [Result.andThen, sliced, hcp]
  · refine ⟨some ⟨b, off + p, none⟩, cap - p, by omega, fun _ => rfl, fun W => ?_⟩
    rw [run_slice_l W 73 _ n cap (by rw [hel]; exact Tryz.underlying73) .i64 _ (by omega) (by omega), hel, hsz]
    simp [Result.andThen, sliced, hcp]
    exact Addr.add_lit ..

/-- '[]byte(s)' can be read -/
theorem rd_conv {w : World} {s : ByteArray} {cap : Nat} (hcap : s.size ≤ cap) (fr : Nat × Nat) :
    Rd (w.drew.alloc (.cells (bytesRow s cap) 5 fr)) (.slice (some ⟨w.heap.size, 0, none⟩) s.size cap) (cellsByteS (byts s)) := by
  have hla : (cellsByteS (byts s)).length = s.size := by rw [cellsByteS, List.length_map, byts_len]
  refine ⟨_, cap, by rw [hla], by rw [hla]; exact hcap, fun _ => ⟨w.heap.size, 0, rfl, by simp, fun j hj => ?_⟩⟩
  rw [hla] at hj
  rw [Nat.zero_add, ints_get _ _ j (by rw [byts_len]; exact hj)]
  exact conv_cells w s cap 5 fr j hj

theorem byts_bytes (s : ByteArray) : Bytes (byts s) := fun x hx => by
  obtain ⟨b, _, rfl⟩ := List.mem_map.1 hx
  have := b.toNat_lt
  omega
theorem bytes_drop {zs : List Int} (h : Bytes zs) (n : Nat) : Bytes (zs.drop n) := fun x hx => h x (List.mem_of_mem_drop hx)

/-- a cut of what can be read -/
theorem rd_cut {w : World} {b off n cap p : Nat} {zs : List Int} (h : Rd w (.slice (some ⟨b, off, none⟩) n cap) (cellsByteS zs)) (hn : zs.length = n) {ao : Option Addr} {cap' : Nat} (hc : n - p ≤ cap') (ha : p < n → ao = some ⟨b, off + p, none⟩) (hp : p ≤ n) :
    Rd w (.slice ao (n - p) cap') (cellsByteS (zs.drop p)) := by
  have hla : (cellsByteS (zs.drop p)).length = n - p := by simp; omega
  refine ⟨ao, cap', by rw [hla], by rw [hla]; exact hc, fun hne => ?_⟩
  have hpn : p < n := by
    by_cases hpn : p < n
    · exact hpn
    · exfalso; apply hne; rw [List.drop_of_length_le (by omega)]; rfl
  obtain ⟨ao', cap2, he, _, hx⟩ := h
  simp only [Value.slice.injEq] at he
  obtain ⟨rfl, _, _⟩ := he
  obtain ⟨b', off', hab, hlt, hcell⟩ := hx (by
    intro h0
    have : zs.length = 0 := by simpa using congrArg List.length h0
    omega)
  simp only [Option.some.injEq, Addr.mk.injEq, and_true] at hab
  obtain ⟨rfl, rfl⟩ := hab
  refine ⟨b, off + p, ha hpn, hlt, fun j hj => ?_⟩
  rw [hla] at hj
  rw [Nat.add_assoc, hcell (p + j) (by simp; omega)]
  simp [List.getElem?_drop]

end Go.Proofs.YtfoncmeplofedaqGreatDoor

namespace Go.Proofs.YtfoncmeplofedaqGreatDoor
open Go.RowKit

/-- the cursor at block cb -/
def Cur (w : World) (cb : Nat) (s : ByteArray) (p : Nat) : Prop := w.heap[cb]? = some (.cells #[.string s, .int .i64 (p : Int)] 114 (0, 0))
theorem cur_cell0 {w : World} {cb : Nat} {s : ByteArray} {p : Nat} (h : Cur w cb s p) : w.cell? ⟨cb, 0, none⟩ = some (.string s) := by
  rw [cell_of_row w cb 0 _ _ (0, 0) h]; rfl
theorem cur_cell1 {w : World} {cb : Nat} {s : ByteArray} {p : Nat} (h : Cur w cb s p) : w.cell? ⟨cb, 1, none⟩ = some (.int .i64 (p : Int)) := by
  rw [cell_of_row w cb 1 _ _ (0, 0) h]; rfl
theorem cur_free {w : World} {cb : Nat} {s : ByteArray} {p : Nat} (h : Cur w cb s p) (j : Nat) : w.frozen? ⟨cb, j, none⟩ = false := frozen_of_row w cb j _ _ h
theorem cur_lt {w : World} {cb : Nat} {s : ByteArray} {p : Nat} (h : Cur w cb s p) : cb < w.heap.size := (Array.getElem?_eq_some_iff.1 h).1

/-- what number looks at -/
def win (s : ByteArray) (p : Nat) : ByteArray := s.extract p (min (p + 6) s.size)

theorem slice_win (s : ByteArray) (p : Nat) (hp : p ≤ s.size) (w : World) :
    (Instr.slice 9 (.string s) (some (.int .i64 (p : Int))) (some (.int .i64 (if (p : Int) + 6 < (s.size : Int) then (p : Int) + 6 else (s.size : Int)))) none).run Tryz.prog w = .ok (.string (win s p)) w := by
  by_cases h : (p : Int) + 6 < (s.size : Int)
  · rw [if_pos h, run_slice_string _ 9 s .i64 .i64 _ _ Tryz.underlying9 (by omega) (by omega) (by omega)]
    have e1 : ((p : Int)).toNat = p := by omega
    have e2 : ((p : Int) + 6).toNat = min (p + 6) s.size := by omega
    rw [e1, e2]; rfl
  · rw [if_neg h, run_slice_string _ 9 s .i64 .i64 _ _ Tryz.underlying9 (by omega) (by omega) (by omega)]
    have e1 : ((p : Int)).toNat = p := by omega
    have e2 : ((s.size : Int)).toNat = min (p + 6) s.size := by omega
    rw [e1, e2]; rfl

/-- the number with which a row of bytes begins, and how many it takes; i: how many went before, n: what they made -/
def rdF : Nat → Nat → List Int → Option (Nat × Nat)
  | _, _, [] => none
  | i, n, b :: r => if b < 128 then (if 1099511627776 < n + b.toNat % 128 * 128 ^ i ∨ (b = 0 ∧ 0 < i) then none else some (n + b.toNat % 128 * 128 ^ i, i + 1)) else rdF (i + 1) (n + b.toNat % 128 * 128 ^ i) r

theorem pow_le_five (j : Nat) (h : j ≤ 5) : 128 ^ j ≤ 34359738368 := by
  have := Nat.pow_le_pow_right (n := 128) (by decide) h
  have e : (128 : Nat) ^ 5 = 34359738368 := by decide
  omega

/-- a step's summand, as a number -/
theorem shl_step (x : Int) (j : Nat) (h0 : 0 ≤ x) (hj : j ≤ 5) : wrap64 (x % 128 * 2 ^ (7 * j)) = ((x.toNat % 128 * 128 ^ j : Nat) : Int) ∧ x.toNat % 128 * 128 ^ j ≤ 4363686772736 := by
  have hp := pow_le_five j hj
  have h1 : x.toNat % 128 * 128 ^ j ≤ 127 * 34359738368 := Nat.mul_le_mul (by omega) hp
  have e : x % 128 * 2 ^ (7 * j) = ((x.toNat % 128 * 128 ^ j : Nat) : Int) := by
    rw [Int.natCast_mul, Int.natCast_emod, Int.toNat_of_nonneg h0, Int.pow_mul, Int.natCast_pow]
    rfl
  refine ⟨?_, by omega⟩
  rw [e]
  exact IntWalk.wrap64_in _ ⟨by omega, by omega⟩

theorem cur_below {w w' : World} {cb B : Nat} {s : ByteArray} {p : Nat} (h : Cur w cb s p) (hb : Below B w w') (hB : cb < B) : Cur w' cb s p := (hb.block cb hB).trans h

/-- the number at place p of s -/
def rdAt (s : ByteArray) (p : Nat) : Option (Nat × Nat) := rdF 0 0 (byts (win s p))

/-- what number leaves -/
def NumEnd (cb : Nat) (s : ByteArray) (p : Nat) (w : World) (e : Ending) (w' : World) : Prop :=
  match rdAt s p with
  | none => e = .returned (.tuple #[.int .i64 0, .bool false]) ∧ Below w.heap.size w w'
  | some (m, k) => e = .returned (.tuple #[.int .i64 (m : Int), .bool true]) ∧ Cur w' cb s (p + k) ∧ w.grownBy w' (some cb)

theorem numEnd_none {cb : Nat} {s : ByteArray} {p : Nat} {w : World} {w' : World} (h : rdAt s p = none) (hb : Below w.heap.size w w') : NumEnd cb s p w (.returned (.tuple #[.int .i64 0, .bool false])) w' := by
  unfold NumEnd; rw [h]; exact ⟨rfl, hb⟩
theorem numEnd_some {cb : Nat} {s : ByteArray} {p m k : Nat} {w : World} {w' : World} {z : Int} (h : rdAt s p = some (m, k)) (hz : z = (m : Int)) (hc : Cur w' cb s (p + k)) (hb : w.grownBy w' (some cb)) : NumEnd cb s p w (.returned (.tuple #[.int .i64 z, .bool true])) w' := by
  unfold NumEnd; rw [h]; exact ⟨by rw [hz], hc, hb⟩

theorem cur_store {w wr : World} {cb : Nat} {s : ByteArray} {p q : Nat} (hcu : Cur wr cb s p) (hb : Below w.heap.size w wr) (z : Int) (hz : z = (q : Int)) :
    Cur (wr.setCell ⟨cb, 1, none⟩ (.int .i64 z)) cb s q ∧ w.grownBy (wr.setCell ⟨cb, 1, none⟩ (.int .i64 z)) (some cb) := by
  subst hz
  refine ⟨?_, grown_trans ⟨hb.os, hb.tape, hb.output, hb.size, fun k hk _ => hb.block k hk⟩ ⟨rfl, rfl, rfl, by simp, fun k _ hk => heap_setCell_other wr ⟨cb, 1, none⟩ k _ (fun e => hk (by simp [e]))⟩⟩
  have h := heap_setCell_same wr cb 1 _ 114 (.int .i64 (q : Int)) hcu
  exact h

set_option maxHeartbeats 4000000 in
set_option maxRecDepth 100000 in
theorem number_any (cb : Nat) (s : ByteArray) (p : Nat) (w : World) (hc : Cur w cb s p) (hp : p ≤ s.size) (hs : s.size ≤ 140737488355328) :
    Calls Tryz.prog 58 #[.pointer (some ⟨cb, 0, none⟩)] w (NumEnd cb s p w) := by
  have h0 := cur_cell0 hc
  have h1 := cur_cell1 hc
  have hcv := fun (w : World) (s : ByteArray) => run_bytes_of_string (P := Tryz.prog) w 9 73 5 s Tryz.underlying9 Tryz.underlying73 Tryz.underlying5
  have hsl := slice_win s p hp
  obtain ⟨t, ht⟩ : ∃ t, t = win s p := ⟨_, rfl⟩
  rw [← ht] at hsl
  have HR : Hid (rdAt s p = rdF 0 0 (byts t)) := by unfold rdAt; rw [← ht]; rfl
  have ht6 : t.size ≤ 6 := by rw [ht]; simp [win]; omega
  clear ht
  have HC : Hid (Cur w cb s p) := hc
  by_cases hlt : (p : Int) + 6 < (s.size : Int)
  all_goals
    first | rw [if_pos hlt] at hsl | rw [if_neg hlt] at hsl
    go_enter Tryz.func58, Tryz.ntmps58
    go_wp2
    go_region
    go_wp2
    go_loopw [4, 29] (fun q i wr => ∃ j m : Nat, j ≤ t.size ∧ q = .int .i64 m ∧ i = .int .i64 j ∧ m ≤ 4398046511104 * j ∧ Hid (rdF 0 0 (byts t) = rdF j m ((byts t).drop j)) ∧ Cur wr cb s p ∧ Hid (∀ j, j < t.size → wr.cell? ⟨w.heap.size, j, none⟩ = some (.int .u8 ((byts t).getD j 0))) ∧ Below w.heap.size w wr) (fun _ i _ => t.size - (intOf i).toNat)
    case atStart =>
      have hb : Below w.heap.size w _ := (((Below.refl w.heap.size w).alloc (Nat.le_refl _) (.cells (bytesRow t (grownCap w.drew t.size 0 5)) 5 ((bytesRow t (grownCap w.drew t.size 0 5)).size, (bytesRow t (grownCap w.drew t.size 0 5)).size + 1))).drew).drew
      exact ⟨0, 0, Nat.zero_le _, rfl, rfl, Nat.zero_le _, rfl, cur_below HC.out hb (cur_lt HC.out), conv_cells w t _ _ _, hb⟩
    case round =>
      obtain ⟨j, m, hj, rfl, rfl, hm, hr, hcu, hce, hb⟩ := hrel
      have HCU : Hid (Cur wr cb s p) := hcu
      by_cases hjt : j < t.size
      · have hcj := hce.out j hjt
        have hj6 : j ≤ 5 := by omega
        have hx := byts_range t j
        obtain ⟨x, hxx⟩ : ∃ x, x = (byts t).getD j 0 := ⟨_, rfl⟩
        rw [← hxx] at hcj hx
        have HX : Hid (rdF 0 0 (byts t) = rdF j m (x :: (byts t).drop (j + 1))) := by
          have h := hr.out
          rw [drop_getD _ _ (by rw [byts_len]; exact hjt), ← hxx] at h
          exact h
        obtain ⟨hx0, hx1⟩ := hx
        have hm' : m ≤ 21990232555520 := by omega
        obtain ⟨hy1, hy2⟩ := shl_step x j hx0 hj6
        obtain ⟨y, hy⟩ : ∃ y, y = x.toNat % 128 * 128 ^ j := ⟨_, rfl⟩
        rw [← hy] at hy1 hy2
        have HY : Hid (y = x.toNat % 128 * 128 ^ j) := hy
        have HM : Hid (m ≤ 4398046511104 * j) := hm
        have hf := cur_free hcu 1
        have hc1 := cur_cell1 hcu
        clear hxx hm hsl hcv h0 h1 hlt hc hr hy hcu
        by_cases hb1 : 128 ≤ x
        · go_wp2
          go_roundw
          case rel =>
            refine ⟨j + 1, m + y, by omega, by go_num, by go_num, ?_, ?_, HCU.out, hce, hb⟩
            · have := HM.out; omega
            · have h := HX.out
              rw [rdF, if_neg (by omega)] at h
              rw [HY.out]; exact h
          case measure => simp [intOf]; omega
        · have HX2 : Hid (rdF 0 0 (byts t) = (if 1099511627776 < m + y ∨ (x = 0 ∧ 0 < j) then none else some (m + y, j + 1))) := by
            have h := HX.out
            rw [rdF, if_pos (by omega)] at h
            rw [HY.out]; exact h
          clear HX
          by_cases hbig : 1099511627776 < (m : Int) + (y : Int)
          · go_wp2
            go_ret2
            refine numEnd_none ?_ hb
            rw [HR.out, HX2.out, if_pos (Or.inl (by omega))]
          · by_cases hx2 : x = 0
            · by_cases hj0 : 0 < (j : Int)
              · have hxe : (x == 0) = true := by simp [hx2]
                have HZ : Hid (x = 0) := hx2
                clear hx2
                go_wp2
                go_ret2
                refine numEnd_none ?_ hb
                have h := HZ.out
                rw [HR.out, HX2.out, if_pos (Or.inr ⟨h, by omega⟩)]
              · have hxe : (x == 0) = true := by simp [hx2]
                have hjd : decide (0 < (j : Int)) = false := by simp; omega
                clear hx2
                go_wp2
                go_ret2
                refine numEnd_some (m := m + y) (k := j + 1) ?_ (by omega) ?_ ?_
                rotate_left
                · exact (cur_store HCU.out hb _ (by omega)).1
                · exact (cur_store (q := p + (j + 1)) HCU.out hb _ (by omega)).2
                rw [HR.out, HX2.out, if_neg (by omega)]
            · have hxe : (x == 0) = false := by simp [hx2]
              have HZ : Hid (¬ x = 0) := hx2
              clear hx2
              go_wp2
              go_ret2
              refine numEnd_some (m := m + y) (k := j + 1) ?_ (by omega) ?_ ?_
              rotate_left
              · exact (cur_store HCU.out hb _ (by omega)).1
              · exact (cur_store (q := p + (j + 1)) HCU.out hb _ (by omega)).2
              have h := HZ.out
              rw [HR.out, HX2.out, if_neg (by omega)]
      · clear hsl hcv h0 h1 hlt hc hcu
        go_wp2
        go_ret2
        refine numEnd_none ?_ hb
        have h := hr.out
        rw [List.drop_of_length_le (by rw [byts_len]; omega)] at h
        rw [HR.out, h]
        rfl
end Go.Proofs.YtfoncmeplofedaqGreatDoor

namespace Go.Proofs.YtfoncmeplofedaqGreatDoor
open Go.RowKit

/-- what ReadNumber tells of bytes zs -/
def rd (zs : List Int) : Option (Nat × Nat) := rdF 0 0 (zs.take 6)
def rdV (zs : List Int) : Value := match rd zs with
  | none => .tuple #[.int .i64 0, .int .i64 0]
  | some (m, k) => .tuple #[.int .i64 (m : Int), .int .i64 (k : Int)]
theorem rdV_none {zs : List Int} (h : rd zs = none) : rdV zs = .tuple #[.int .i64 0, .int .i64 0] := by unfold rdV; rw [h]
theorem rdV_some {zs : List Int} {m k : Nat} (h : rd zs = some (m, k)) : rdV zs = .tuple #[.int .i64 (m : Int), .int .i64 (k : Int)] := by unfold rdV; rw [h]
theorem rdV_form (zs : List Int) : ∃ p q : Nat, rdV zs = .tuple #[.int .i64 (p : Int), .int .i64 (q : Int)] := by
  cases h : rd zs with
  | none => exact ⟨0, 0, rdV_none h⟩
  | some x => exact ⟨x.1, x.2, rdV_some h⟩
theorem rdEnd_none {zs : List Int} (h : rd zs = none) : Ending.returned (.tuple #[.int .i64 0, .int .i64 0]) = .returned (rdV zs) := by rw [rdV_none h]
theorem rdEnd_some {zs : List Int} {m k : Nat} {x y : Int} (h : rd zs = some (m, k)) (hx : x = (m : Int)) (hy : y = (k : Int)) : Ending.returned (.tuple #[.int .i64 x, .int .i64 y]) = .returned (rdV zs) := by rw [rdV_some h, hx, hy]

theorem mul_step (x : Int) (W j : Nat) (hW : W = 128 ^ j) (h0 : 0 ≤ x) (hj : j ≤ 5) : wrap64 (x % 128 * (W : Int)) = ((x.toNat % 128 * 128 ^ j : Nat) : Int) := by
  have h := shl_step x j h0 hj
  have e : x % 128 * (W : Int) = x % 128 * 2 ^ (7 * j) := by
    rw [hW, Int.pow_mul, Int.natCast_pow]; rfl
  rw [e]; exact h.1

set_option maxHeartbeats 2000000 in
set_option maxRecDepth 100000 in
theorem specRead_any (va : Value) (zs : List Int) (w : World) (ha : Rd w va (cellsByteS zs)) (hz : Bytes zs) (hl : zs.length ≤ 140737488355328) :
    Calls Tryz.prog 34 #[va] w fun e w' => e = .returned (rdV zs) ∧ Below w.heap.size w w' := by
  have hla : (cellsByteS zs).length = zs.length := by simp
  rcases rd_cases ha with ⟨h0, ao, cap, rfl⟩ | ⟨hp, b, off, cap, rfl, _, hlt, hc⟩
  · have hx : zs = [] := by simpa using h0
    subst hx
    go_enter Tryz.func34, Tryz.ntmps34
    go_wp2
    refine wp_loop_rounds 1 ?_
    rw [rounds_succ]
    go_wp2
    go_ret2
    exact ⟨rdEnd_none rfl, Below.refl _ _⟩
  · rw [hla] at hc hp ⊢
    obtain ⟨n, hn⟩ : ∃ n, n = zs.length := ⟨_, rfl⟩
    rw [← hn] at hc hp hl ⊢
    have HN : Hid (n = zs.length) := hn
    have HA : Hid (∀ j, j < n → w.cell? ⟨b, off + j, none⟩ = some (.int .u8 (zs.getD j 0))) := fun j hj => (hc j hj).trans (ints_get _ zs j (by omega))
    have HZ : Hid (Bytes zs) := hz
    clear hc hla ha hn hz
    go_enter Tryz.func34, Tryz.ntmps34
    go_wp2
    go_loop [4, 5, 6] (fun q u i => ∃ j m W : Nat, j ≤ n ∧ j ≤ 6 ∧ q = .int .i64 m ∧ u = .int .i64 W ∧ i = .int .i64 j ∧ m ≤ 4398046511104 * j ∧ Hid (W = 128 ^ j) ∧ Hid (rd zs = rdF j m ((zs.take 6).drop j))) (fun _ _ i => n - (intOf i).toNat)
    case atStart => exact ⟨0, 0, 1, Nat.zero_le _, by omega, rfl, rfl, rfl, Nat.zero_le _, rfl, rfl⟩
    case round =>
      obtain ⟨j, m, W, hj, hj6, rfl, rfl, rfl, hm, hW, hr⟩ := hrel
      by_cases hjn : j < n
      · by_cases hj5 : j < 6
        · have hcj := HA.out j hjn
          have hx := bytes_get HZ.out j
          have HX : Hid (rd zs = rdF j m (zs.getD j 0 :: (zs.take 6).drop (j + 1))) := by
            have h := hr.out
            have hn := HN.out
            rw [drop_getD _ _ (by simp; omega), take_getD _ _ _ hj5] at h
            exact h
          obtain ⟨x, hxx⟩ : ∃ x, x = zs.getD j 0 := ⟨_, rfl⟩
          rw [← hxx] at hcj hx HX
          obtain ⟨hx0, hx1⟩ := hx
          have hy1 := mul_step x W j hW.out hx0 (by omega)
          have hy2 := (shl_step x j hx0 (by omega)).2
          obtain ⟨y, hy⟩ : ∃ y, y = x.toNat % 128 * 128 ^ j := ⟨_, rfl⟩
          rw [← hy] at hy1 hy2
          have HY : Hid (y = x.toNat % 128 * 128 ^ j) := hy
          have hWb : W ≤ 34359738368 := by rw [hW.out]; exact pow_le_five j (by omega)
          have hm' : m ≤ 21990232555520 := by omega
          have HM : Hid (m ≤ 4398046511104 * j) := hm
          clear hxx hy hm hr
          by_cases hb1 : 128 ≤ x
          · go_wp2
            go_round
            case rel =>
              refine ⟨j + 1, m + y, W * 128, by omega, by omega, by go_num, by go_num, by go_num, ?_, ?_, ?_⟩
              · have := HM.out; omega
              · show _ = _
                rw [hW.out, Nat.pow_succ]
              · have h := HX.out
                rw [rdF, if_neg (by omega)] at h
                rw [HY.out]; exact h
            case measure => simp [intOf]; omega
          · have HX2 : Hid (rd zs = (if 1099511627776 < m + y ∨ (x = 0 ∧ 0 < j) then none else some (m + y, j + 1))) := by
              have h := HX.out
              rw [rdF, if_pos (by omega)] at h
              rw [HY.out]; exact h
            clear HX
            by_cases hbig : 1099511627776 < (m : Int) + (y : Int)
            · go_wp2
              go_ret2
              refine ⟨rdEnd_none ?_, Below.refl _ _⟩
              rw [HX2.out, if_pos (Or.inl (by omega))]
            · by_cases hx2 : x = 0
              · by_cases hj0 : 0 < (j : Int)
                · have hxe : (x == 0) = true := by simp [hx2]
                  have HZ2 : Hid (x = 0) := hx2
                  clear hx2
                  go_wp2
                  go_ret2
                  refine ⟨rdEnd_none ?_, Below.refl _ _⟩
                  have h := HZ2.out
                  rw [HX2.out, if_pos (Or.inr ⟨h, by omega⟩)]
                · have hxe : (x == 0) = true := by simp [hx2]
                  have hjd : decide (0 < (j : Int)) = false := by simp; omega
                  clear hx2
                  go_wp2
                  go_ret2
                  refine ⟨rdEnd_some (m := m + y) (k := j + 1) ?_ (by omega) (by omega), Below.refl _ _⟩
                  rw [HX2.out, if_neg (by omega)]
              · have hxe : (x == 0) = false := by simp [hx2]
                have HZ2 : Hid (¬ x = 0) := hx2
                clear hx2
                by_cases hj0 : 0 < (j : Int)
                · go_wp2
                  go_ret2
                  refine ⟨rdEnd_some (m := m + y) (k := j + 1) ?_ (by omega) (by omega), Below.refl _ _⟩
                  have h := HZ2.out
                  rw [HX2.out, if_neg (by omega)]
                · have hjd : decide (0 < (j : Int)) = false := by simp; omega
                  go_wp2
                  go_ret2
                  refine ⟨rdEnd_some (m := m + y) (k := j + 1) ?_ (by omega) (by omega), Below.refl _ _⟩
                  have h := HZ2.out
                  rw [HX2.out, if_neg (by omega)]
        · have hjd : decide ((j : Int) < 6) = false := by simp; omega
          go_wp2
          go_ret2
          refine ⟨rdEnd_none ?_, Below.refl _ _⟩
          rw [hr.out, List.drop_of_length_le (by simp; omega)]
          rfl
      · have hjd : decide ((j : Int) < (n : Int)) = false := by simp; omega
        go_wp2
        go_ret2
        refine ⟨rdEnd_none ?_, Below.refl _ _⟩
        have hn := HN.out
        rw [hr.out, List.drop_of_length_le (by simp; omega)]
        rfl

end Go.Proofs.YtfoncmeplofedaqGreatDoor

namespace Go.Proofs.YtfoncmeplofedaqGreatDoor
open Go.RowKit

theorem win_all (s : ByteArray) (h : s.size ≤ 6) : win s 0 = s := by
  have e : min (0 + 6) s.size = s.size := by omega
  unfold win
  rw [e]
  exact ByteArray.extract_zero_size

theorem rdAt_asB (zs : List Int) (k : Nat) (hz : Bytes zs) (hk : (zs.take k).length ≤ 6) (he : zs.take k = zs.take 6) : rdAt (asB (zs.take k)) 0 = rd zs := by
  unfold rdAt rd
  rw [win_all _ (by rw [asB_size]; exact hk), asB_byts _ (bytes_take hz k), he]

/-- what is left behind the call of number -/
theorem read_end {zs : List Int} {t : ByteArray} {w w1 w' : World} {e : Ending} (hr : rdAt t 0 = rd zs) (hb : Below w.heap.size w w1) (hn : NumEnd w.heap.size t 0 w1 e w') (hs : w1.heap.size = w.heap.size + 1) :
    (rd zs = none ∧ e = .returned (.tuple #[.int .i64 0, .bool false]) ∧ Below w.heap.size w w') ∨
    (∃ m k, rd zs = some (m, k) ∧ e = .returned (.tuple #[.int .i64 (m : Int), .bool true]) ∧ w'.cell? ⟨w.heap.size, 1, none⟩ = some (.int .i64 (k : Int)) ∧ Below w.heap.size w w') := by
  unfold NumEnd at hn
  rw [hr] at hn
  split at hn
  · next h => exact .inl ⟨h, hn.1, hb.trans (hn.2.mono (by omega))⟩
  · next m k h =>
    refine .inr ⟨m, k, h, hn.1, ?_, hb.grown hn.2.2 (by omega) (fun k hk => by cases hk; exact Nat.le_refl _)⟩
    have h := cur_cell1 hn.2.1
    rwa [Nat.zero_add] at h

end Go.Proofs.YtfoncmeplofedaqGreatDoor

namespace Go.Proofs.YtfoncmeplofedaqGreatDoor
open Go.RowKit

theorem rdF_some (L : List Int) : ∀ (i n m k : Nat), rdF i n L = some (m, k) → i < k ∧ k ≤ i + L.length ∧ m ≤ 1099511627776 := by
  induction L with
  | nil => intro i n m k h; simp [rdF] at h
  | cons b r ih =>
    intro i n m k h
    rw [rdF] at h
    by_cases h1 : b < 128
    · rw [if_pos h1] at h
      by_cases h2 : 1099511627776 < n + b.toNat % 128 * 128 ^ i ∨ (b = 0 ∧ 0 < i)
      · rw [if_pos h2] at h; cases h
      · rw [if_neg h2] at h
        simp only [Option.some.injEq, Prod.mk.injEq] at h
        simp only [List.length_cons]
        omega
    · rw [if_neg h1] at h
      have := ih _ _ _ _ h
      simp only [List.length_cons]
      omega

/-- the number at place p -/
def rdP (zs : List Int) (p : Nat) : Option (Nat × Nat) := rd (zs.drop p)
theorem rdP_some {zs : List Int} {p m k : Nat} (h : rdP zs p = some (m, k)) : 0 < k ∧ p + k ≤ zs.length ∧ m ≤ 1099511627776 := by
  have h1 := rdF_some _ _ _ _ _ h
  have h2 : ((zs.drop p).take 6).length ≤ zs.length - p := by rw [List.length_take, List.length_drop]; omega
  omega

theorem byts_win (s : ByteArray) (p : Nat) : byts (win s p) = ((byts s).drop p).take 6 := by
  unfold byts win
  rw [ByteArray.data_extract, Array.toList_extract, List.extract_eq_take_drop, List.map_take, List.map_drop]
  have hl : (s.data.toList.map fun b => (b.toNat : Int)).length = s.size := by simp
  by_cases h : p + 6 ≤ s.size
  · rw [show min (p + 6) s.size - p = 6 by omega]
  · rw [List.take_of_length_le (by rw [List.length_drop, hl]; omega), List.take_of_length_le (by rw [List.length_drop, hl]; omega)]

theorem rdAt_eq (s : ByteArray) (p : Nat) : rdAt s p = rdP (byts s) p := by
  unfold rdAt rdP rd
  rw [byts_win]

section
variable {α : Type} (it : Nat → Option (α × Nat))

def itemsAt : Nat → Nat → Option (List α × Nat)
  | 0, p => some ([], p)
  | c + 1, p => match it p with
    | none => none
    | some (x, k) => match itemsAt c (p + k) with
      | none => none
      | some (l, q) => some (x :: l, q)

/-- what comes of c items more from p on, acc being those that were read, n the end -/
def fin (n : Nat) (acc : List α) (c p : Nat) : Option (List α) := match itemsAt it c p with
  | none => none
  | some (l, q) => if q = n then some (acc ++ l) else none

theorem fin_zero (n : Nat) (acc : List α) (p : Nat) : fin it n acc 0 p = if p = n then some acc else none := by
  unfold fin itemsAt; simp
theorem fin_none (n : Nat) (acc : List α) (c p : Nat) (h : it p = none) : fin it n acc (c + 1) p = none := by
  unfold fin itemsAt; rw [h]
theorem fin_some (n : Nat) (acc : List α) (c p : Nat) {x : α} {k : Nat} (h : it p = some (x, k)) : fin it n acc (c + 1) p = fin it n (acc ++ [x]) c (p + k) := by
  unfold fin
  rw [itemsAt, h]
  simp only
  cases itemsAt it c (p + k) with
  | none => rfl
  | some y => obtain ⟨l, q⟩ := y; simp

/-- the whole list -/
def readL (zs : List Int) : Option (List α) := match rdP zs 0 with
  | none => none
  | some (c, k) => if 200 < c then none else fin it zs.length [] c k
theorem readL_none {zs : List Int} (h : rdP zs 0 = none) : readL it zs = none := by unfold readL; rw [h]
theorem readL_long {zs : List Int} {c k : Nat} (h : rdP zs 0 = some (c, k)) (hc : 200 < c) : readL it zs = none := by unfold readL; rw [h]; simp only; rw [if_pos hc]
theorem readL_some {zs : List Int} {c k : Nat} (h : rdP zs 0 = some (c, k)) (hc : ¬ 200 < c) : readL it zs = fin it zs.length [] c k := by unfold readL; rw [h]; simp only; rw [if_neg hc]
end

def rdI (zs : List Int) (p : Nat) : Option (Int × Nat) := (rdP zs p).map fun x => ((x.1 : Int), x.2)
/-- what ReadNumbers tells -/
def readNums (zs : List Int) : Option (List Int) := readL (rdI zs) zs
theorem rdI_none {zs : List Int} {p : Nat} (h : rdP zs p = none) : rdI zs p = none := by unfold rdI; rw [h]; rfl
theorem rdI_some {zs : List Int} {p m k : Nat} (h : rdP zs p = some (m, k)) : rdI zs p = some ((m : Int), k) := by unfold rdI; rw [h]; rfl

theorem cur_grown {w w' : World} {cb : Nat} {s : ByteArray} {p : Nat} {row : Option Nat} (h : Cur w cb s p) (k : w.grownBy w' row) (hne : ∀ g, row = some g → g ≠ cb) : Cur w' cb s p :=
  (k.block cb (cur_lt h) (fun e => hne cb e.symm rfl)).trans h

theorem number_cases {cb : Nat} {s : ByteArray} {p : Nat} {w : World} {e : Ending} {w' : World} (h : NumEnd cb s p w e w') :
    (rdP (byts s) p = none ∧ e = .returned (.tuple #[.int .i64 0, .bool false]) ∧ Below w.heap.size w w') ∨
    (∃ m k, rdP (byts s) p = some (m, k) ∧ e = .returned (.tuple #[.int .i64 (m : Int), .bool true]) ∧ Cur w' cb s (p + k) ∧ w.grownBy w' (some cb)) := by
  unfold NumEnd at h
  rw [rdAt_eq] at h
  split at h
  · next h1 => exact .inl ⟨h1, h.1, h.2⟩
  · next m k h1 => exact .inr ⟨m, k, h1, h.1, h.2.1, h.2.2⟩

end Go.Proofs.YtfoncmeplofedaqGreatDoor

namespace Go.Proofs.YtfoncmeplofedaqGreatDoor
open Go.RowKit

/-- seven bits a byte, with fuel -/
def encF : Nat → Nat → List Int
  | 0, m => [(m : Int)]
  | f + 1, m => if m < 128 then [(m : Int)] else ((m % 128 + 128 : Nat) : Int) :: encF f (m / 128)

theorem encF_any (f g : Nat) : ∀ m, m ≤ f → m ≤ g → encF f m = encF g m := by
  induction f generalizing g with
  | zero =>
    intro m hf hg
    cases g with
    | zero => rfl
    | succ g => simp only [encF]; rw [if_pos (by omega)]
  | succ f ih =>
    intro m hf hg
    cases g with
    | zero => simp only [encF]; rw [if_pos (by omega)]
    | succ g =>
      simp only [encF]
      by_cases h : m < 128
      · rw [if_pos h, if_pos h]
      · rw [if_neg h, if_neg h, ih g (m / 128) (by omega) (by omega)]

def enc (m : Nat) : List Int := encF m m

theorem enc_last (m : Nat) (h : m < 128) : enc m = [(m : Int)] := by
  unfold enc
  cases m with
  | zero => rfl
  | succ m => simp only [encF]; rw [if_pos h]

theorem enc_more (m : Nat) (h : 128 ≤ m) : enc m = ((m % 128 + 128 : Nat) : Int) :: enc (m / 128) := by
  unfold enc
  cases m with
  | zero => omega
  | succ m =>
    simp only [encF]
    rw [if_neg (by omega), encF_any m ((m + 1) / 128) _ (by omega) (by omega)]

theorem enc_len (k : Nat) : ∀ m, m < 128 ^ (k + 1) → (enc m).length ≤ k + 1 := by
  induction k with
  | zero => intro m h; rw [enc_last m (by simpa using h)]; simp
  | succ k ih =>
    intro m h
    by_cases h1 : m < 128
    · rw [enc_last m h1]; simp
    · rw [enc_more m (by omega)]
      have := ih (m / 128) (by rw [Nat.pow_succ] at h; omega)
      simp only [List.length_cons]; omega

theorem enc_pos (m : Nat) : 0 < (enc m).length := by
  by_cases h1 : m < 128
  · rw [enc_last m h1]; simp
  · rw [enc_more m (by omega)]; simp

/-- a number of 64 bits takes at most nine bytes -/
theorem enc_len9 (m : Nat) (h : m < 9223372036854775808) : (enc m).length ≤ 9 := by
  have e : 128 ^ (8 + 1) = 9223372036854775808 := by decide
  exact enc_len 8 m (by omega)
theorem enc_len6 (m : Nat) (h : m ≤ 1099511627776) : (enc m).length ≤ 6 := by
  have e : 128 ^ (5 + 1) = 4398046511104 := by decide
  exact enc_len 5 m (by omega)
/-- each is a byte -/
theorem enc_byte (k : Nat) : ∀ m, m ≤ k → ∀ x ∈ enc m, 0 ≤ x ∧ x ≤ 255 := by
  induction k with
  | zero => intro m h x hx; rw [enc_last m (by omega)] at hx; simp at hx; omega
  | succ k ih =>
    intro m h x hx
    by_cases h1 : m < 128
    · rw [enc_last m h1] at hx; simp at hx; omega
    · rw [enc_more m (by omega)] at hx
      rcases List.mem_cons.1 hx with rfl | hx
      · omega
      · exact ih (m / 128) (by omega) x hx

end Go.Proofs.YtfoncmeplofedaqGreatDoor

namespace Go.Proofs.YtfoncmeplofedaqGreatDoor
open Go.RowKit

/-- what Number tells -/
def numB (n : Int) : List Int := if 0 ≤ n ∧ n ≤ 1099511627776 then enc n.toNat else []
theorem numB_in (n : Nat) (h : n ≤ 1099511627776) : numB n = enc n := by unfold numB; rw [if_pos (by omega)]; simp
theorem numB_out (n : Int) (h : ¬ (0 ≤ n ∧ n ≤ 1099511627776)) : numB n = [] := by unfold numB; rw [if_neg h]
theorem numB_len (n : Int) : (numB n).length ≤ 6 := by
  unfold numB
  split
  · exact enc_len6 _ (by omega)
  · simp

end Go.Proofs.YtfoncmeplofedaqGreatDoor

namespace Go.Proofs.YtfoncmeplofedaqGreatDoor
open Go.RowKit

abbrev okN (x : Int) : Prop := 0 ≤ x ∧ x ≤ 1099511627776
def flat (xs : List Int) : List Int := xs.flatMap fun x => enc x.toNat
/-- what Numbers tells -/
def numsB (xs : List Int) : List Int := if xs.length ≤ 200 ∧ ∀ x ∈ xs, okN x then enc xs.length ++ flat xs else []
theorem flat_snoc (xs : List Int) (x : Int) : flat (xs ++ [x]) = flat xs ++ enc x.toNat := by simp [flat]
theorem flat_len (xs : List Int) (h : ∀ x ∈ xs, okN x) : (flat xs).length ≤ 6 * xs.length := by
  induction xs with
  | nil => simp [flat]
  | cons x r ih =>
    have h1 := h x List.mem_cons_self
    have h2 := enc_len6 x.toNat (by unfold okN at h1; omega)
    have h3 := ih fun y hy => h y (List.mem_cons_of_mem _ hy)
    have e : flat (x :: r) = enc x.toNat ++ flat r := by simp [flat]
    rw [e, List.length_append, List.length_cons]; omega
theorem enc_bytes (m : Nat) : Bytes (enc m) := enc_byte m m (Nat.le_refl _)
theorem flat_bytes (xs : List Int) : Bytes (flat xs) := fun x hx => by
  obtain ⟨y, _, hy⟩ := List.mem_flatMap.1 hx
  exact enc_bytes _ x hy
theorem numsB_bad {xs : List Int} {k : Nat} (hk : k < xs.length) (h : ¬ okN (xs.getD k 0)) : numsB xs = [] := by
  unfold numsB
  rw [if_neg]
  intro hh
  have e : xs.getD k 0 = xs[k] := by simp [List.getD, hk]
  rw [e] at h
  exact h (hh.2 _ (List.getElem_mem hk))
theorem numsB_long {xs : List Int} (h : 200 < xs.length) : numsB xs = [] := by
  unfold numsB; rw [if_neg (by omega)]
theorem numsB_good {xs : List Int} (hl : xs.length ≤ 200) (h : ∀ x ∈ xs.take xs.length, okN x) : numsB xs = enc xs.length ++ flat xs := by
  unfold numsB
  rw [List.take_of_length_le (Nat.le_refl _)] at h
  rw [if_pos ⟨hl, h⟩]
theorem ok_snoc {xs : List Int} {k : Nat} (hk : k < xs.length) (h : ∀ x ∈ xs.take k, okN x) (hx : okN (xs.getD k 0)) : ∀ x ∈ xs.take (k + 1), okN x := by
  intro x hm
  rw [take_snoc xs 0 k hk] at hm
  rcases List.mem_append.1 hm with h1 | h1
  · exact h x h1
  · rw [List.mem_singleton.1 h1]; exact hx

end Go.Proofs.YtfoncmeplofedaqGreatDoor

namespace Go.Proofs.YtfoncmeplofedaqGreatDoor
open Go.RowKit

theorem bytes_drop' {zs : List Int} (h : Bytes zs) (n : Nat) : Bytes (zs.drop n) := fun x hx => h x (List.mem_of_mem_drop hx)

theorem rdF_enc (L : List Int) : ∀ (i n m k : Nat), Bytes L → rdF i n L = some (m, k) → ∃ x : Nat, m = n + x * 128 ^ i ∧ L.take (k - i) = enc x ∧ (0 < i → 0 < x) ∧ i < k := by
  induction L with
  | nil => intro i n m k _ h; simp [rdF] at h
  | cons b r ih =>
    intro i n m k hb h
    have hb0 := hb b List.mem_cons_self
    rw [rdF] at h
    by_cases h1 : b < 128
    · rw [if_pos h1] at h
      by_cases h2 : 1099511627776 < n + b.toNat % 128 * 128 ^ i ∨ (b = 0 ∧ 0 < i)
      · rw [if_pos h2] at h; cases h
      · rw [if_neg h2] at h
        simp only [Option.some.injEq, Prod.mk.injEq] at h
        have hm : b.toNat % 128 = b.toNat := Nat.mod_eq_of_lt (by omega)
        refine ⟨b.toNat, by rw [← h.1, hm], ?_, ?_, by omega⟩
        · rw [show k - i = 1 by omega, enc_last _ (by omega), List.take_succ_cons, List.take_zero, Int.toNat_of_nonneg hb0.1]
        · intro hi
          have : ¬ (b = 0 ∧ 0 < i) := fun h => h2 (Or.inr h)
          omega
    · rw [if_neg h1] at h
      obtain ⟨x, hx, ht, hp, hk⟩ := ih (i + 1) _ m k (fun y hy => hb y (List.mem_cons_of_mem _ hy)) h
      have hx0 := hp (by omega)
      refine ⟨b.toNat % 128 + 128 * x, ?_, ?_, fun _ => by omega, by omega⟩
      · rw [hx, Nat.pow_succ, Nat.add_mul]
        have e : x * (128 ^ i * 128) = 128 * x * 128 ^ i := by rw [Nat.mul_comm (128 ^ i) 128, ← Nat.mul_assoc, Nat.mul_comm x 128]
        rw [e]; omega
      · rw [show k - i = (k - (i + 1)) + 1 by omega, List.take_succ_cons, ht, enc_more (b.toNat % 128 + 128 * x) (by omega)]
        have e1 : (b.toNat % 128 + 128 * x) / 128 = x := by omega
        have e2 : (((b.toNat % 128 + 128 * x) % 128 + 128 : Nat) : Int) = b := by omega
        rw [e1, e2]

theorem rd_enc {zs : List Int} {m k : Nat} (hb : Bytes zs) (h : rd zs = some (m, k)) : zs.take k = enc m ∧ 0 < k := by
  obtain ⟨x, hx, ht, _, hk⟩ := rdF_enc _ _ _ _ _ (bytes_take hb 6) h
  have hk6 := (rdF_some _ _ _ _ _ h).2.1
  have hl : (zs.take 6).length ≤ 6 := List.length_take_le _ _
  have e : m = x := by rw [hx]; simp
  rw [e]
  refine ⟨?_, hk⟩
  rw [Nat.sub_zero, List.take_take, show min k 6 = k by omega] at ht
  exact ht

theorem enc_rdF (K : Nat) : ∀ (x i n : Nat) (r : List Int), x ≤ K → n + x * 128 ^ i ≤ 1099511627776 → (0 < i → 0 < x) → rdF i n (enc x ++ r) = some (n + x * 128 ^ i, i + (enc x).length) := by
  induction K with
  | zero =>
    intro x i n r hx hm hp
    have hx0 : x = 0 := by omega
    subst hx0
    have hi : i = 0 := by
      cases i with
      | zero => rfl
      | succ i => exact absurd (hp (by omega)) (by omega)
    subst hi
    rw [enc_last 0 (by omega)]
    simp only [List.cons_append, List.nil_append, rdF]
    rw [if_pos (by omega), if_neg (by simp; omega)]
    simp
  | succ K ih =>
    intro x i n r hx hm hp
    by_cases h1 : x < 128
    · rw [enc_last x h1]
      simp only [List.cons_append, List.nil_append, rdF]
      have e : ((x : Int)).toNat % 128 = x := by omega
      rw [if_pos (by omega), e, if_neg (by
        intro h
        rcases h with h | h
        · omega
        · have := hp h.2; omega)]
      simp
    · rw [enc_more x (by omega)]
      simp only [List.cons_append, rdF]
      have e : (((x % 128 + 128 : Nat) : Int)).toNat % 128 = x % 128 := by omega
      have e2 : n + x % 128 * 128 ^ i + x / 128 * 128 ^ (i + 1) = n + x * 128 ^ i := by
        rw [Nat.pow_succ, Nat.add_assoc]
        congr 1
        have e3 : x / 128 * (128 ^ i * 128) = (128 * (x / 128)) * 128 ^ i := by rw [Nat.mul_comm (128 ^ i) 128, ← Nat.mul_assoc, Nat.mul_comm (x / 128) 128]
        rw [e3, ← Nat.add_mul]
        congr 1
        omega
      rw [if_neg (by omega), e, ih (x / 128) (i + 1) _ r (by omega) (by rw [e2]; exact hm) (fun _ => by omega), e2, List.length_cons]
      congr 2
      omega

theorem enc_rd {m : Nat} (h : m ≤ 1099511627776) (r : List Int) : rd (enc m ++ r) = some (m, (enc m).length) := by
  unfold rd
  have hl := enc_len6 m h
  rw [List.take_append, List.take_of_length_le hl, enc_rdF m m 0 0 _ (Nat.le_refl _) (by simpa using h) (by omega)]
  simp

theorem flat_cons (x : Int) (l : List Int) : flat (x :: l) = enc x.toNat ++ flat l := by simp [flat]
theorem flat_append (a b : List Int) : flat (a ++ b) = flat a ++ flat b := by simp [flat]

/-- reading what was laid, with something behind it -/
theorem fin_flat (zs : List Int) (rest : List Int) : ∀ (todo pre acc : List Int), (∀ x ∈ todo, okN x) → zs = pre ++ flat todo ++ rest → fin (rdI zs) zs.length acc todo.length pre.length = if rest = [] then some (acc ++ todo) else none := by
  intro todo
  induction todo with
  | nil =>
    intro pre acc _ hz
    rw [List.length_nil, fin_zero, List.append_nil]
    have hl : zs.length = pre.length + rest.length := by rw [hz]; simp [flat]
    by_cases hr : rest = []
    · rw [if_pos hr, if_pos (by rw [hl, hr]; simp)]
    · have hpos : 0 < rest.length := List.length_pos_iff.2 hr
      rw [if_neg hr, if_neg (by omega)]
  | cons x r ih =>
    intro pre acc hok hz
    have hx := hok x List.mem_cons_self
    have hm : x.toNat ≤ 1099511627776 := by omega
    have hd : zs.drop pre.length = enc x.toNat ++ (flat r ++ rest) := by
      rw [hz, flat_cons, List.append_assoc, List.drop_left, List.append_assoc]
    have hp : rdP zs pre.length = some (x.toNat, (enc x.toNat).length) := by unfold rdP; rw [hd]; exact enc_rd hm _
    rw [List.length_cons, fin_some _ _ _ _ _ (rdI_some hp), Int.toNat_of_nonneg hx.1]
    have h := ih (pre ++ enc x.toNat) (acc ++ [x]) (fun y hy => hok y (List.mem_cons_of_mem _ hy)) (by rw [hz, flat_cons]; simp)
    rw [List.length_append] at h
    rw [h]
    simp

theorem read_laid (l rest : List Int) (hl : l.length ≤ 200) (hok : ∀ x ∈ l, okN x) : readNums (enc l.length ++ flat l ++ rest) = if rest = [] then some l else none := by
  have hp : rdP (enc l.length ++ flat l ++ rest) 0 = some (l.length, (enc l.length).length) := by
    unfold rdP
    rw [List.drop_zero, List.append_assoc]
    exact enc_rd (by omega) _
  unfold readNums
  rw [readL_some _ hp (by omega), fin_flat _ rest l (enc l.length) [] hok rfl]
  simp

theorem fin_back (zs : List Int) (hb : Bytes zs) : ∀ (c p : Nat) (acc l : List Int), p ≤ zs.length → fin (rdI zs) zs.length acc c p = some l → ∃ tl, l = acc ++ tl ∧ tl.length = c ∧ (∀ x ∈ tl, okN x) ∧ zs.drop p = flat tl := by
  intro c
  induction c with
  | zero =>
    intro p acc l hp h
    rw [fin_zero] at h
    by_cases hpn : p = zs.length
    · rw [if_pos hpn] at h
      exact ⟨[], by simpa using (Option.some.inj h).symm, rfl, (fun x hx => absurd hx List.not_mem_nil), by rw [hpn, List.drop_length]; rfl⟩
    · rw [if_neg hpn] at h; cases h
  | succ c ih =>
    intro p acc l hp h
    cases hx : rdP zs p with
    | none => rw [fin_none _ _ _ _ _ (rdI_none hx)] at h; cases h
    | some y =>
      obtain ⟨m, j⟩ := y
      obtain ⟨hj0, hjn, hm⟩ := rdP_some hx
      rw [fin_some _ _ _ _ _ (rdI_some hx)] at h
      obtain ⟨tl, h1, h2, h3, h4⟩ := ih (p + j) _ _ hjn h
      have ht := (rd_enc (bytes_drop' hb p) hx).1
      refine ⟨(m : Int) :: tl, by rw [h1]; simp, by rw [List.length_cons, h2], ?_, ?_⟩
      · intro x hx'
        rcases List.mem_cons.1 hx' with rfl | hx'
        · exact ⟨by omega, by omega⟩
        · exact h3 x hx'
      · rw [flat_cons, Int.toNat_natCast, ← ht, ← h4, ← List.drop_drop, List.take_append_drop]

theorem read_back {zs l : List Int} (hb : Bytes zs) (h : readNums zs = some l) : numsB l = zs ∧ l.length ≤ 200 ∧ (∀ x ∈ l, okN x) ∧ zs = enc l.length ++ flat l := by
  cases hp : rdP zs 0 with
  | none => unfold readNums at h; rw [readL_none _ hp] at h; cases h
  | some y =>
    obtain ⟨c, k⟩ := y
    obtain ⟨hk0, hkn, _⟩ := rdP_some hp
    by_cases hc : 200 < c
    · unfold readNums at h; rw [readL_long _ hp hc] at h; cases h
    · unfold readNums at h
      rw [readL_some _ hp hc] at h
      obtain ⟨tl, h1, h2, h3, h4⟩ := fin_back zs hb c k [] l (by omega) h
      rw [List.nil_append] at h1
      subst h1
      have ht := (rd_enc (bytes_drop' hb 0) hp).1
      rw [List.drop_zero] at ht
      have hz : zs = enc l.length ++ flat l := by rw [h2, ← ht, ← h4, List.take_append_drop]
      refine ⟨?_, by omega, h3, hz⟩
      unfold numsB
      rw [if_pos ⟨by omega, h3⟩, ← hz]

theorem read_cut {zs l : List Int} {k : Nat} (hb : Bytes zs) (h : readNums zs = some l) (hk : k < zs.length) : readNums (zs.take k) = none := by
  cases hr : readNums (zs.take k) with
  | none => rfl
  | some l' =>
    obtain ⟨_, h1, h2, h3⟩ := read_back (bytes_take hb k) hr
    have e : zs = enc l'.length ++ flat l' ++ zs.drop k := by rw [← h3, List.take_append_drop]
    have hne : zs.drop k ≠ [] := by
      intro h0
      have := congrArg List.length h0
      rw [List.length_drop] at this
      simp at this
      omega
    rw [e, read_laid l' _ h1 h2, if_neg hne] at h
    cases h

end Go.Proofs.YtfoncmeplofedaqGreatDoor

namespace Go.Proofs.YtfoncmeplofedaqGreatDoor
open Go.RowKit

/-- what is left of l when the lengths of xs are taken off; -1 when it falls below 0 -/
def szF : List ByteArray → Int → Int
  | [], l => l
  | s :: r, l => if l - (s.size : Int) < 0 then -1 else szF r (l - (s.size : Int))
def szS (xs : List ByteArray) (l : Int) : Int := if l - (xs.length : Int) < 0 then -1 else szF xs (l - (xs.length : Int))
theorem szF_nonneg (xs : List ByteArray) : ∀ l, 0 ≤ szF xs l → 0 ≤ l → szF xs l ≤ l ∧ ∀ s ∈ xs, (s.size : Int) ≤ l := by
  induction xs with
  | nil => intro l _ _; exact ⟨Int.le_refl _, fun s hs => by cases hs⟩
  | cons s r ih =>
    intro l h h0
    rw [szF] at h ⊢
    by_cases hn : l - (s.size : Int) < 0
    · rw [if_pos hn] at h; omega
    · rw [if_neg hn] at h ⊢
      have h1 := ih _ h (by omega)
      refine ⟨by omega, fun x hx => ?_⟩
      rcases List.mem_cons.1 hx with rfl | hx
      · omega
      · have := h1.2 x hx; omega
theorem szS_nonneg {xs : List ByteArray} {l : Int} (h : 0 ≤ szS xs l) : (xs.length : Int) ≤ l ∧ ∀ s ∈ xs, (s.size : Int) ≤ l := by
  unfold szS at h
  by_cases hn : l - (xs.length : Int) < 0
  · rw [if_pos hn] at h; omega
  · rw [if_neg hn] at h
    have h1 := szF_nonneg xs _ h (by omega)
    exact ⟨by omega, fun s hs => by have := h1.2 s hs; omega⟩
theorem szF_drop (xs : List ByteArray) (k : Nat) (l : Int) (h : k < xs.length) : szF (xs.drop k) l = if l - ((xs.getD k ByteArray.empty).size : Int) < 0 then -1 else szF (xs.drop (k + 1)) (l - ((xs.getD k ByteArray.empty).size : Int)) := by
  have e : xs.drop k = xs.getD k ByteArray.empty :: xs.drop (k + 1) := by rw [List.drop_eq_getElem_cons h]; simp [List.getD, h]
  rw [e, szF]

end Go.Proofs.YtfoncmeplofedaqGreatDoor

namespace Go.Proofs.YtfoncmeplofedaqGreatDoor
open Go.RowKit

theorem step_append_own {P : Program} {ops : Array Oper} {o : Oper} {a : Act} {w : World} {K : Act → World → Prop} {Q : Exit → Act → World → Prop} {E : Prop}
    (hg : o.guard = none) (s x : Operand) (t : TypeId) (hop : o.op = Op.call { callee := Callee.builtin Builtin.append, args := #[s, x], argTypes := #[t, t] })
    (base : Nat) (e : TypeId) (i : TypeInfo) (z : Value) (size bytes : Nat) (h1 : P.underlying t = some (.slice e)) (h2 : P.info? e = some i) (h3 : i.zero = some z) (h4 : i.size = size) (h5 : i.bytes = bytes) (h6 : z.cells.size = size) (h7 : 0 < size)
    (v : Value) (n : Nat) (xs : List Value) (hs : a.eval s = v) (hown : w.ownsRow base e size v n xs)
    (ad : Addr) (m c : Nat) (news : List Value) (hx : a.eval x = .slice (some ad) m c) (hn : news.length = m * size) (hc : ∀ j u, news[j]? = some u → w.cell? (ad.add j) = some u) (h1c : ∀ u ∈ news, u.oneCell' = true)
    (b1 : n + m ≤ maxLen) (b2 : (n + m) * bytes ≤ 140737488355328) (hbase : base ≤ w.heap.size)
    (hK : ∀ v' w', w'.ownsRow base e size v' (n + m) (xs ++ news) → w.grownBy w' v.ownBlock → K (a.put o.dst v') w') :
    if Region.wanted o (yielded ops a.tmps) = true then Oper.wp P o a w K Q else E := by
  have hw : Region.wanted o (yielded ops a.tmps) = true := by simp [Region.wanted, hg]
  rw [if_pos hw]
  exact wp_append_own w s x t hop base e i z size bytes h1 h2 h3 h4 h5 h6 h7 v n xs hs hown ad m c news hx hn hc h1c b1 b2 hbase (fun v' w' r1 r2 _ => hK v' w' r1 r2)

theorem step_append_string {P : Program} {ops : Array Oper} {o : Oper} {a : Act} {w : World} {K : Act → World → Prop} {Q : Exit → Act → World → Prop} {E : Prop}
    (hg : o.guard = none) (s x : Operand) (t u : TypeId) (hop : o.op = Op.call { callee := Callee.builtin Builtin.append, args := #[s, x], argTypes := #[t, u] })
    (base : Nat) (e : TypeId) (i : TypeInfo) (h1 : P.underlying t = some (.slice e)) (hu : P.underlying u = some .string) (h2 : P.info? e = some i) (h3 : i.zero = some (.int .u8 0)) (h4 : i.size = 1) (h5 : i.bytes = 1)
    (v : Value) (n : Nat) (xs : List Value) (hs : a.eval s = v) (hown : w.ownsRow base e 1 v n xs) (st : ByteArray) (hx : a.eval x = .string st)
    (b1 : n + st.size ≤ maxLen) (b2 : n + st.size ≤ 140737488355328) (hbase : base ≤ w.heap.size)
    (hK : ∀ v' w', w'.ownsRow base e 1 v' (n + st.size) (xs ++ Lib.strCells st) → w.grownBy w' v.ownBlock → K (a.put o.dst v') w') :
    if Region.wanted o (yielded ops a.tmps) = true then Oper.wp P o a w K Q else E := by
  have hw : Region.wanted o (yielded ops a.tmps) = true := by simp [Region.wanted, hg]
  rw [if_pos hw]
  obtain ⟨v', w', hr, r2, r3, _⟩ := Lib.run_append_own_string (P := P) w base t u o.type e i h1 hu h2 h3 h4 h5 v n xs hown st b1 b2 hbase
  unfold Oper.wp execOp
  simp only [hop, resolve, invoke, builtin, Sem.run_bind, Sem.run_pure, Result.andThen_ok, List.map_toArray, List.map_cons, List.map_nil, hs, hx, hr]
  exact hK _ _ r2 r3

end Go.Proofs.YtfoncmeplofedaqGreatDoor

namespace Go.Proofs.YtfoncmeplofedaqGreatDoor
open Go.RowKit

theorem strCells_byts (s : ByteArray) : Lib.strCells s = cellsByteS (byts s) := by
  simp [Lib.strCells, byts, Function.comp_def]

def flatT (xs : List ByteArray) : List Int := xs.flatMap fun s => enc s.size ++ byts s
/-- what Texts tells -/
def textsB (xs : List ByteArray) : List Int := if xs.length ≤ 200 ∧ ∀ s ∈ xs, s.size ≤ 2000 then enc xs.length ++ flatT xs else []
theorem flatT_snoc (xs : List ByteArray) (s : ByteArray) : flatT (xs ++ [s]) = flatT xs ++ (enc s.size ++ byts s) := by simp [flatT]
theorem flatT_len (xs : List ByteArray) (h : ∀ s ∈ xs, s.size ≤ 2000) : (flatT xs).length ≤ 2006 * xs.length := by
  induction xs with
  | nil => simp [flatT]
  | cons x r ih =>
    have h1 := h x List.mem_cons_self
    have h2 := enc_len6 x.size (by omega)
    have h3 := ih fun y hy => h y (List.mem_cons_of_mem _ hy)
    have e : flatT (x :: r) = (enc x.size ++ byts x) ++ flatT r := by simp [flatT]
    rw [e, List.length_append, List.length_append, byts_len, List.length_cons]; omega
theorem flatT_bytes (xs : List ByteArray) : Bytes (flatT xs) := fun x hx => by
  obtain ⟨y, _, hy⟩ := List.mem_flatMap.1 hx
  rcases List.mem_append.1 hy with h | h
  · exact enc_bytes _ x h
  · exact byts_bytes _ x h
theorem textsB_bad {xs : List ByteArray} {k : Nat} (hk : k < xs.length) (h : ¬ (xs.getD k ByteArray.empty).size ≤ 2000) : textsB xs = [] := by
  unfold textsB
  rw [if_neg]
  intro hh
  have e : xs.getD k ByteArray.empty = xs[k] := by simp [List.getD, hk]
  rw [e] at h
  exact h (hh.2 _ (List.getElem_mem hk))
theorem textsB_long {xs : List ByteArray} (h : 200 < xs.length) : textsB xs = [] := by
  unfold textsB; rw [if_neg (by omega)]
theorem textsB_good {xs : List ByteArray} (hl : xs.length ≤ 200) (h : ∀ s ∈ xs.take xs.length, s.size ≤ 2000) : textsB xs = enc xs.length ++ flatT xs := by
  unfold textsB
  rw [List.take_of_length_le (Nat.le_refl _)] at h
  rw [if_pos ⟨hl, h⟩]
theorem okT_snoc {xs : List ByteArray} {k : Nat} (hk : k < xs.length) (h : ∀ s ∈ xs.take k, s.size ≤ 2000) (hx : (xs.getD k ByteArray.empty).size ≤ 2000) : ∀ s ∈ xs.take (k + 1), s.size ≤ 2000 := by
  intro x hm
  rw [take_snoc xs ByteArray.empty k hk] at hm
  rcases List.mem_append.1 hm with h1 | h1
  · exact h x h1
  · rw [List.mem_singleton.1 h1]; exact hx

end Go.Proofs.YtfoncmeplofedaqGreatDoor

namespace Go.Proofs.YtfoncmeplofedaqGreatDoor
open Go.RowKit

/-- the text of at most so many bytes at place p of s -/
def rdM (most : Nat) (s : ByteArray) (p : Nat) : Option (ByteArray × Nat) := match rdP (byts s) p with
  | none => none
  | some (m, k) => if most < m ∨ s.size < p + k + m then none else some (s.extract (p + k) (p + k + m), k + m)
theorem rdM_none {most : Nat} {s : ByteArray} {p : Nat} (h : rdP (byts s) p = none) : rdM most s p = none := by unfold rdM; rw [h]
theorem rdM_bad {most : Nat} {s : ByteArray} {p m k : Nat} (h : rdP (byts s) p = some (m, k)) (hb : most < m ∨ s.size < p + k + m) : rdM most s p = none := by unfold rdM; rw [h]; simp only; rw [if_pos hb]
theorem rdM_some {most : Nat} {s : ByteArray} {p m k : Nat} (h : rdP (byts s) p = some (m, k)) (hb : ¬ (most < m ∨ s.size < p + k + m)) : rdM most s p = some (s.extract (p + k) (p + k + m), k + m) := by unfold rdM; rw [h]; simp only; rw [if_neg hb]
/-- the text at place p of s -/
def rdT (s : ByteArray) (p : Nat) : Option (ByteArray × Nat) := match rdP (byts s) p with
  | none => none
  | some (m, k) => if 2000 < m ∨ s.size < p + k + m then none else some (s.extract (p + k) (p + k + m), k + m)
theorem rdT_none {s : ByteArray} {p : Nat} (h : rdP (byts s) p = none) : rdT s p = none := by unfold rdT; rw [h]
theorem rdT_bad {s : ByteArray} {p m k : Nat} (h : rdP (byts s) p = some (m, k)) (hb : 2000 < m ∨ s.size < p + k + m) : rdT s p = none := by unfold rdT; rw [h]; simp only; rw [if_pos hb]
theorem rdT_some {s : ByteArray} {p m k : Nat} (h : rdP (byts s) p = some (m, k)) (hb : ¬ (2000 < m ∨ s.size < p + k + m)) : rdT s p = some (s.extract (p + k) (p + k + m), k + m) := by unfold rdT; rw [h]; simp only; rw [if_neg hb]
/-- what ReadTexts tells -/
def readTexts (s : ByteArray) : Option (List ByteArray) := readL (rdT s) (byts s)

theorem one_str (w : World) (x : ByteArray) (t : TypeId) : ∀ j u, ([Value.string x] : List Value)[j]? = some u → (w.alloc (.cells #[Value.string x] t)).cell? ((⟨w.heap.size, 0, none⟩ : Addr).add j) = some u := by
  intro j u hj
  match j, hj with
  | 0, hj => simp at hj; subst hj; simp [Addr.add]

theorem rdM_text (s : ByteArray) (p : Nat) : rdM 2000 s p = rdT s p := rfl
end Go.Proofs.YtfoncmeplofedaqGreatDoor

namespace Go.Proofs.YtfoncmeplofedaqGreatDoor
open Go.RowKit

theorem of_byts (s : ByteArray) : asB (byts s) = s := by
  unfold asB byts
  rw [List.map_map]
  have e : ((fun z : Int => UInt8.ofNat z.toNat) ∘ fun b : UInt8 => (b.toNat : Int)) = id := by
    funext b
    simp
  rw [e, List.map_id]
theorem byts_extract (s : ByteArray) (a b : Nat) : byts (s.extract a b) = ((byts s).drop a).take (b - a) := by
  unfold byts
  rw [ByteArray.data_extract, Array.toList_extract, List.extract_eq_take_drop, List.map_take, List.map_drop]
theorem byts_inj {s t : ByteArray} (h : byts s = byts t) : s = t := by
  rw [← of_byts s, ← of_byts t, h]

theorem flatT_cons (x : ByteArray) (l : List ByteArray) : flatT (x :: l) = enc x.size ++ byts x ++ flatT l := by simp [flatT]

theorem fin_flatT (S : ByteArray) (rest : List Int) : ∀ (todo : List ByteArray) (pre : List Int) (acc : List ByteArray), (∀ x ∈ todo, x.size ≤ 2000) → byts S = pre ++ flatT todo ++ rest → fin (rdT S) (byts S).length acc todo.length pre.length = if rest = [] then some (acc ++ todo) else none := by
  intro todo
  induction todo with
  | nil =>
    intro pre acc _ hz
    rw [List.length_nil, fin_zero, List.append_nil]
    have hl : (byts S).length = pre.length + rest.length := by rw [hz]; simp [flatT]
    by_cases hr : rest = []
    · rw [if_pos hr, if_pos (by rw [hl, hr]; simp)]
    · have hpos : 0 < rest.length := List.length_pos_iff.2 hr
      rw [if_neg hr, if_neg (by omega)]
  | cons x r ih =>
    intro pre acc hok hz
    have hx := hok x List.mem_cons_self
    have hd : (byts S).drop pre.length = enc x.size ++ (byts x ++ (flatT r ++ rest)) := by
      rw [hz, flatT_cons]
      simp
    have hp : rdP (byts S) pre.length = some (x.size, (enc x.size).length) := by unfold rdP; rw [hd]; exact enc_rd (by omega) _
    have hsz : S.size = pre.length + (enc x.size).length + x.size + (flatT r ++ rest).length := by
      have h := congrArg List.length hd
      rw [List.length_drop, byts_len, List.length_append, List.length_append, byts_len] at h
      have h2 : pre.length ≤ S.size := by rw [← byts_len, hz, List.append_assoc, List.length_append]; omega
      omega
    have hex : S.extract (pre.length + (enc x.size).length) (pre.length + (enc x.size).length + x.size) = x := by
      apply byts_inj
      rw [byts_extract, Nat.add_sub_cancel_left, ← List.drop_drop, hd, List.drop_left, ← byts_len x, List.take_left]
    have hrd := rdT_some hp (by omega)
    rw [hex] at hrd
    rw [List.length_cons, fin_some _ _ _ _ _ hrd]
    have h := ih (pre ++ (enc x.size ++ byts x)) (acc ++ [x]) (fun y hy => hok y (List.mem_cons_of_mem _ hy)) (by rw [hz, flatT_cons]; simp)
    have e : (pre ++ (enc x.size ++ byts x)).length = pre.length + ((enc x.size).length + x.size) := by rw [List.length_append, List.length_append, byts_len]
    rw [e] at h
    rw [h]
    simp

theorem read_laidT (l : List ByteArray) (rest : List Int) (S : ByteArray) (hS : byts S = enc l.length ++ flatT l ++ rest) (hl : l.length ≤ 200) (hok : ∀ x ∈ l, x.size ≤ 2000) : readTexts S = if rest = [] then some l else none := by
  have hp : rdP (byts S) 0 = some (l.length, (enc l.length).length) := by
    unfold rdP
    rw [List.drop_zero, hS, List.append_assoc]
    exact enc_rd (by omega) _
  unfold readTexts
  rw [readL_some _ hp (by omega), fin_flatT S rest l (enc l.length) [] hok hS]
  simp

theorem fin_backT (S : ByteArray) : ∀ (c p : Nat) (acc l : List ByteArray), p ≤ S.size → fin (rdT S) (byts S).length acc c p = some l → ∃ tl, l = acc ++ tl ∧ tl.length = c ∧ (∀ x ∈ tl, x.size ≤ 2000) ∧ (byts S).drop p = flatT tl := by
  intro c
  induction c with
  | zero =>
    intro p acc l hp h
    rw [fin_zero] at h
    by_cases hpn : p = (byts S).length
    · rw [if_pos hpn] at h
      exact ⟨[], by simpa using (Option.some.inj h).symm, rfl, (fun x hx => absurd hx List.not_mem_nil), by rw [hpn, List.drop_length]; rfl⟩
    · rw [if_neg hpn] at h; cases h
  | succ c ih =>
    intro p acc l hp h
    cases hx : rdP (byts S) p with
    | none => rw [fin_none _ _ _ _ _ (rdT_none hx)] at h; cases h
    | some y =>
      obtain ⟨m, j⟩ := y
      obtain ⟨hj0, hjn, hm⟩ := rdP_some hx
      by_cases hbad : 2000 < m ∨ S.size < p + j + m
      · rw [fin_none _ _ _ _ _ (rdT_bad hx hbad)] at h; cases h
      · rw [fin_some _ _ _ _ _ (rdT_some hx hbad)] at h
        obtain ⟨tl, h1, h2, h3, h4⟩ := ih (p + (j + m)) _ _ (by omega) h
        have ht := (rd_enc (bytes_drop' (byts_bytes S) p) hx).1
        have hxs : (S.extract (p + j) (p + j + m)).size = m := by rw [ByteArray.size_extract]; omega
        refine ⟨S.extract (p + j) (p + j + m) :: tl, by rw [h1]; simp, by rw [List.length_cons, h2], ?_, ?_⟩
        · intro x hx'
          rcases List.mem_cons.1 hx' with rfl | hx'
          · omega
          · exact h3 x hx'
        · rw [flatT_cons, hxs, byts_extract, Nat.add_sub_cancel_left, ← ht, ← h4, List.append_assoc]
          have e1 : (byts S).drop (p + (j + m)) = ((byts S).drop (p + j)).drop m := by rw [List.drop_drop]; congr 1; omega
          rw [e1, List.take_append_drop, ← List.drop_drop, List.take_append_drop]

theorem read_backT {S : ByteArray} {l : List ByteArray} (h : readTexts S = some l) : textsB l = byts S ∧ l.length ≤ 200 ∧ (∀ x ∈ l, x.size ≤ 2000) ∧ byts S = enc l.length ++ flatT l := by
  have hb := byts_bytes S
  cases hp : rdP (byts S) 0 with
  | none => unfold readTexts at h; rw [readL_none _ hp] at h; cases h
  | some y =>
    obtain ⟨c, k⟩ := y
    obtain ⟨hk0, hkn, _⟩ := rdP_some hp
    rw [byts_len] at hkn
    by_cases hc : 200 < c
    · unfold readTexts at h; rw [readL_long _ hp hc] at h; cases h
    · unfold readTexts at h
      rw [readL_some _ hp hc] at h
      obtain ⟨tl, h1, h2, h3, h4⟩ := fin_backT S c k [] l (by omega) h
      rw [List.nil_append] at h1
      subst h1
      have ht := (rd_enc (bytes_drop' hb 0) hp).1
      rw [List.drop_zero] at ht
      have hz : byts S = enc l.length ++ flatT l := by rw [h2, ← ht, ← h4, List.take_append_drop]
      refine ⟨?_, by omega, h3, hz⟩
      unfold textsB
      rw [if_pos ⟨by omega, h3⟩, ← hz]

theorem read_cutT {S : ByteArray} {l : List ByteArray} {k : Nat} (h : readTexts S = some l) (hk : k < S.size) : readTexts (S.extract 0 k) = none := by
  cases hr : readTexts (S.extract 0 k) with
  | none => rfl
  | some l' =>
    obtain ⟨_, h1, h2, h3⟩ := read_backT hr
    rw [byts_extract, Nat.sub_zero, List.drop_zero] at h3
    have e : byts S = enc l'.length ++ flatT l' ++ (byts S).drop k := by rw [← h3, List.take_append_drop]
    have hne : (byts S).drop k ≠ [] := by
      intro h0
      have := congrArg List.length h0
      rw [List.length_drop, byts_len] at this
      simp at this
      omega
    rw [read_laidT l' _ S e h1 h2, if_neg hne] at h
    cases h

theorem textsB_len (l : List ByteArray) : (textsB l).length ≤ 402000 := by
  unfold textsB
  split
  · next h =>
    have h1 := enc_len6 l.length (by omega)
    have h2 := flatT_len l h.2
    rw [List.length_append]; omega
  · simp

theorem texts_len (S : ByteArray) : ((readTexts S).getD []).length ≤ 200 := by
  cases h : readTexts S with
  | none => simp
  | some l => simpa using (read_backT h).2.1

theorem laid_ofT {sl : ByteArray} {l : List ByteArray} (h : sl = asB (textsB l)) (he : sl.toList.isEmpty = false) : l.length ≤ 200 ∧ readTexts sl = some l ∧ 0 < sl.size := by
  have hpos : 0 < sl.size := by
    by_cases h0 : 0 < sl.size
    · exact h0
    · have e : sl = ⟨#[]⟩ := by
        apply ByteArray.ext
        exact Array.eq_empty_of_size_eq_zero (by show sl.size = 0; omega)
      rw [e] at he
      exact absurd he (by simp [ByteArray.toList_eq])
  have hne : textsB l ≠ [] := by
    intro e
    rw [h, e] at hpos
    exact absurd hpos (by decide)
  have hc : l.length ≤ 200 ∧ ∀ x ∈ l, x.size ≤ 2000 := by
    by_cases hc : l.length ≤ 200 ∧ ∀ x ∈ l, x.size ≤ 2000
    · exact hc
    · exact absurd (by unfold textsB; rw [if_neg hc]) hne
  have hn : textsB l = enc l.length ++ flatT l := by unfold textsB; rw [if_pos hc]
  have hb : Bytes (textsB l) := by rw [hn]; exact bytes_append (enc_bytes _) (flatT_bytes _)
  refine ⟨hc.1, ?_, hpos⟩
  have hr := read_laidT l [] sl (by rw [h, asB_byts _ hb, hn, List.append_nil]) hc.1 hc.2
  rw [hr, if_pos rfl]

end Go.Proofs.YtfoncmeplofedaqGreatDoor

namespace Go.Proofs.YtfoncmeplofedaqGreatDoor
open Go.RowKit

/-- one byte more -/
def dStep (h b : Int) : Int := (h * 1000003 + b + 1) % 2147483647
def digL (bs : List Int) : Int := bs.foldl dStep 1
def dTold (h : Int) : Int := if h = 0 then 1 else h
/-- what a text's digest is -/
def digest (s : ByteArray) : Int := dTold (digL (byts s))

theorem dStep_in (h b : Int) : 0 ≤ dStep h b ∧ dStep h b ≤ 2147483646 := by
  unfold dStep; omega
theorem digL_in (bs : List Int) : 0 ≤ digL bs ∧ digL bs ≤ 2147483646 := by
  unfold digL
  suffices H : ∀ h, 0 ≤ h ∧ h ≤ 2147483646 → 0 ≤ bs.foldl dStep h ∧ bs.foldl dStep h ≤ 2147483646 from H 1 (by omega)
  induction bs with
  | nil => exact fun h hh => hh
  | cons b r ih => exact fun h _ => ih _ (dStep_in h b)
theorem digL_snoc (bs : List Int) (k : Nat) (hk : k < bs.length) : digL (bs.take (k + 1)) = dStep (digL (bs.take k)) (bs.getD k 0) := by
  rw [take_snoc bs 0 k hk]
  simp [digL]
theorem digest_in (s : ByteArray) : 1 ≤ digest s ∧ digest s ≤ 2147483646 := by
  have := digL_in (byts s)
  unfold digest dTold
  split <;> omega

theorem with_any (h b : Int) (w : World) (h0 : 0 ≤ h) (h1 : h ≤ 2147483646) (b0 : 0 ≤ b) (b1 : b ≤ 255) :
    Calls Tryz.prog 77 #[.int .i64 h, .int .u8 b] w fun e w' => e = .returned (.int .i64 (dStep h b)) ∧ w' = w := by
  go_enter Tryz.func77, Tryz.ntmps77
  go_wp2
  go_ret
  exact ⟨ret_int (by unfold dStep; rfl), rfl⟩

theorem told_any (h : Int) (w : World) :
    Calls Tryz.prog 78 #[.int .i64 h] w fun e w' => e = .returned (.int .i64 (dTold h)) ∧ w' = w := by
  by_cases hh : h = 0
  · subst hh
    go_enter Tryz.func78, Tryz.ntmps78
    go_wp2
    go_ret
    exact ⟨rfl, rfl⟩
  · have e : dTold h = h := by unfold dTold; rw [if_neg hh]
    rw [e]
    clear e
    go_enter Tryz.func78, Tryz.ntmps78
    go_wp2
    go_ret
    exact ⟨rfl, rfl⟩

/-- a byte of a text -/
theorem str_at (s : ByteArray) (k : Nat) (hk : k < s.size) : ∀ W : World, (Instr.index 9 (.string s) (.int .i64 (k : Int))).run Tryz.prog W = .ok (.int .u8 ((byts s).getD k 0)) W := fun W => by
  rw [run_index_string W 9 s .i64 k Tryz.underlying9, dif_pos ⟨by omega, by omega⟩, byts_get s k hk]
  rfl

theorem folded_any (s : ByteArray) (w : World) (hs : s.size ≤ 9223372036854775807) :
    Calls Tryz.prog 76 #[.string s, .int .i64 1, .func (.func 77) #[] #[]] w fun e w' => e = .returned (.int .i64 (digL (byts s))) ∧ w' = w := by
  have hbl := byts_len s
  have HB : Hid ((byts s).length = s.size) := hbl
  clear hbl
  go_enter Tryz.func76, Tryz.ntmps76
  go_wp2
  go_loop [1, 10] (fun q i => ∃ k : Nat, k ≤ s.size ∧ q = .int .i64 (digL ((byts s).take k)) ∧ i = .int .i64 k) (fun _ i => s.size - (intOf i).toNat)
  case atStart => exact ⟨0, Nat.zero_le _, rfl, rfl⟩
  case round =>
    obtain ⟨k, hk, rfl, rfl⟩ := hrel
    by_cases hlt : k < s.size
    · have hx := str_at s k hlt
      have hr := byts_range s k
      have hd := digL_in ((byts s).take k)
      have hst : Hid (digL ((byts s).take (k + 1)) = dStep (digL ((byts s).take k)) ((byts s).getD k 0)) := digL_snoc _ k (by rw [HB.out]; exact hlt)
      obtain ⟨x, hxx⟩ : ∃ x, x = (byts s).getD k 0 := ⟨_, rfl⟩
      rw [← hxx] at hx hr hst
      obtain ⟨d, hdd⟩ : ∃ d, d = digL ((byts s).take k) := ⟨_, rfl⟩
      rw [← hdd] at hd hst ⊢
      clear hxx hdd
      obtain ⟨hr0, hr1⟩ := hr
      obtain ⟨hd0, hd1⟩ := hd
      go_wp2_with fail
      refine (with_any d x _ hd0 hd1 hr0 hr1).mono ?_
      rintro e w' ⟨rfl, rfl⟩
      go_wp2
      go_round
      case rel => exact ⟨k + 1, by omega, by rw [hst.out], by go_num⟩
      case measure => simp [intOf]; omega
    · have e : digL ((byts s).take k) = digL (byts s) := by rw [List.take_of_length_le (by rw [HB.out]; omega)]
      rw [e]
      clear e
      go_wp2
      go_ret
      exact ⟨rfl, rfl⟩

theorem implDigest_any (s : ByteArray) (w : World) (hs : s.size ≤ 9223372036854775807) :
    Calls Tryz.prog 60 #[.string s] w fun e w' => e = .returned (.int .i64 (digest s)) ∧ w' = w := by
  have hd : Hid (digest s = dTold (digL (byts s))) := rfl
  go_enter Tryz.func60, Tryz.ntmps60
  go_wp2_with fail
  refine (folded_any s _ hs).mono ?_
  rintro e w1 ⟨rfl, rfl⟩
  go_wp2_with fail
  refine (told_any _ _).mono ?_
  rintro e w2 ⟨rfl, rfl⟩
  rw [← hd.out]
  go_wp2
  go_ret
  exact ⟨rfl, rfl⟩

theorem max_any (h : Int) (w : World) (h0 : 0 ≤ h) :
    Calls Tryz.prog 33 #[.int .i64 1, .int .i64 h] w fun e w' => e = .returned (.int .i64 (dTold h)) ∧ w' = w := by
  by_cases hh : h = 0
  · subst hh
    go_enter Tryz.func33, Tryz.ntmps33
    go_wp2
    go_ret
    exact ⟨rfl, rfl⟩
  · have e : dTold h = h := by unfold dTold; rw [if_neg hh]
    rw [e]
    clear e
    go_enter Tryz.func33, Tryz.ntmps33
    go_wp2
    go_ret
    exact ⟨rfl, rfl⟩

theorem specDigest_any (s : ByteArray) (w : World) (hs : s.size ≤ 9223372036854775807) :
    Calls Tryz.prog 45 #[.string s] w fun e w' => e = .returned (.int .i64 (digest s)) ∧ w' = w := by
  have HB : Hid ((byts s).length = s.size) := byts_len s
  have hD : Hid (digest s = dTold (digL (byts s))) := rfl
  go_enter Tryz.func45, Tryz.ntmps45
  go_wp2
  go_loop [3, 4] (fun q i => ∃ k : Nat, k ≤ s.size ∧ q = .int .i64 (digL ((byts s).take k)) ∧ i = .int .i64 k) (fun _ i => s.size - (intOf i).toNat)
  case atStart => exact ⟨0, Nat.zero_le _, rfl, rfl⟩
  case round =>
    obtain ⟨k, hk, rfl, rfl⟩ := hrel
    by_cases hlt : k < s.size
    · have hx := str_at s k hlt
      have hr := byts_range s k
      have hd := digL_in ((byts s).take k)
      have hst : Hid (digL ((byts s).take (k + 1)) = dStep (digL ((byts s).take k)) ((byts s).getD k 0)) := digL_snoc _ k (by rw [HB.out]; exact hlt)
      obtain ⟨x, hxx⟩ : ∃ x, x = (byts s).getD k 0 := ⟨_, rfl⟩
      rw [← hxx] at hx hr hst
      obtain ⟨d, hdd⟩ : ∃ d, d = digL ((byts s).take k) := ⟨_, rfl⟩
      rw [← hdd] at hd hst ⊢
      clear hxx hdd
      obtain ⟨hr0, hr1⟩ := hr
      obtain ⟨hd0, hd1⟩ := hd
      go_wp2
      go_round
      case rel => exact ⟨k + 1, by omega, by rw [hst.out]; rfl, by go_num⟩
      case measure => simp [intOf]; omega
    · have e : digL ((byts s).take k) = digL (byts s) := by rw [List.take_of_length_le (by rw [HB.out]; omega)]
      rw [e]
      clear e
      have hd0 := (digL_in (byts s)).1
      obtain ⟨d, hdd⟩ : ∃ d, d = digL (byts s) := ⟨_, rfl⟩
      rw [← hdd] at hd0 hD ⊢
      clear hdd
      go_wp2_with fail
      refine (max_any d _ hd0).mono ?_
      rintro e w2 ⟨rfl, rfl⟩
      rw [← hD.out]
      go_wp2
      go_ret
      exact ⟨rfl, rfl⟩

theorem same_of {a b : ByteArray} (h : a.toList = b.toList) : a = b := by
  rw [ByteArray.toList_eq, ByteArray.toList_eq] at h
  exact ByteArray.ext (Array.toList_inj.1 h)

/-- do two texts clash? -/
def clashB (a b : ByteArray) : Bool := !a.toList == b.toList && digest a == digest b
theorem clashB_iff (a b : ByteArray) : clashB a b = true ↔ a ≠ b ∧ digest a = digest b := by
  unfold clashB
  constructor
  · intro h
    simp at h
    exact ⟨fun e => h.1 (by rw [e]), h.2⟩
  · rintro ⟨h1, h2⟩
    have h3 : ¬ a.toList = b.toList := fun e => h1 (same_of e)
    simp [h2, h3]
theorem clashB_comm (a b : ByteArray) : clashB a b = clashB b a := by
  rw [Bool.eq_iff_iff, clashB_iff, clashB_iff]
  exact ⟨fun h => ⟨fun e => h.1 e.symm, h.2.symm⟩, fun h => ⟨fun e => h.1 e.symm, h.2.symm⟩⟩



end Go.Proofs.YtfoncmeplofedaqGreatDoor

namespace Go.Proofs.YtfoncmeplofedaqGreatDoor
open Go.RowKit

/-- one byte more -/
def rStep (h b : Int) : Int := (h * 257 + b + 1) % 65521
def rollL (bs : List Int) : Int := bs.foldl rStep 0
/-- the number of a text -/
def roll (s : ByteArray) : Int := rollL (byts s)
/-- what n bytes more multiply by -/
def pw : Nat → Int
  | 0 => 1
  | n + 1 => pw n * 257 % 65521
/-- rolled on -/
def rolledF (h out inn : Int) (n : Nat) : Int := (257 * h - (out + 1) * pw n + inn + 1) % 65521

theorem rStep_in (h b : Int) : 0 ≤ rStep h b ∧ rStep h b ≤ 65520 := by
  unfold rStep; omega
theorem rollL_in (bs : List Int) : 0 ≤ rollL bs ∧ rollL bs ≤ 65520 := by
  unfold rollL
  suffices H : ∀ h, 0 ≤ h ∧ h ≤ 65520 → 0 ≤ bs.foldl rStep h ∧ bs.foldl rStep h ≤ 65520 from H 0 (by omega)
  induction bs with
  | nil => exact fun h hh => hh
  | cons b r ih => exact fun h _ => ih _ (rStep_in h b)
theorem rollL_snoc (bs : List Int) (k : Nat) (hk : k < bs.length) : rollL (bs.take (k + 1)) = rStep (rollL (bs.take k)) (bs.getD k 0) := by
  rw [take_snoc bs 0 k hk]
  simp [rollL]
theorem roll_in (s : ByteArray) : 0 ≤ roll s ∧ roll s ≤ 65520 := rollL_in _
theorem pw_in (n : Nat) : 0 ≤ pw n ∧ pw n ≤ 65520 := by
  induction n with
  | zero => simp [pw]
  | succ n ih => unfold pw; omega
theorem pw_succ (n : Nat) : pw (n + 1) = pw n * 257 % 65521 := rfl
theorem prod_in (o p : Int) (h0 : 0 ≤ o) (h1 : o ≤ 255) (p0 : 0 ≤ p) (p1 : p ≤ 65520) : 0 ≤ (o + 1) * p ∧ (o + 1) * p ≤ 16773120 := by
  have a := Int.mul_nonneg (show 0 ≤ o + 1 by omega) p0
  have b := Int.mul_le_mul (show o + 1 ≤ 256 by omega) p1 p0 (by omega)
  omega
theorem rolledF_in (h out inn : Int) (n : Nat) : 0 ≤ rolledF h out inn n ∧ rolledF h out inn n ≤ 65520 := by
  unfold rolledF; omega





/-- what Power tells -/
def powerF (n : Int) : Int := if 0 ≤ n ∧ n ≤ 16 then pw n.toNat else -1


theorem l1In_any (x lo hi : Int) (w : World) :
    Calls Tryz.prog 28 #[.int .i64 x, .int .i64 lo, .int .i64 hi] w fun e w' => e = .returned (.bool (decide (lo ≤ x ∧ x ≤ hi))) ∧ w' = w := by
  by_cases ha : lo ≤ x
  · by_cases hb : x ≤ hi
    · rw [decide_eq_true (⟨ha, hb⟩ : lo ≤ x ∧ x ≤ hi)]
      go_enter Tryz.func28, Tryz.ntmps28
      go_wp2
      go_ret
      exact ⟨rfl, rfl⟩
    · rw [decide_eq_false (fun h => hb h.2 : ¬ (lo ≤ x ∧ x ≤ hi))]
      go_enter Tryz.func28, Tryz.ntmps28
      go_wp2
      go_ret
      exact ⟨rfl, rfl⟩
  · rw [decide_eq_false (fun h => ha h.1 : ¬ (lo ≤ x ∧ x ≤ hi))]
    go_enter Tryz.func28, Tryz.ntmps28
    go_wp2
    go_ret
    exact ⟨rfl, rfl⟩




/-- the remainder of what is below 0 -/
theorem tmod_neg (x : Int) (h : x < 0) : -65521 < x.tmod 65521 ∧ x.tmod 65521 ≤ 0 ∧ Hid (x % 65521 = if x.tmod 65521 < 0 then x.tmod 65521 + 65521 else x.tmod 65521) := by
  obtain ⟨y, rfl⟩ : ∃ y : Int, x = -y := ⟨-x, by omega⟩
  have e : (-y).tmod 65521 = -(y % 65521) := by rw [Int.neg_tmod, Int.tmod_eq_emod_of_nonneg (by omega)]
  rw [e]
  refine ⟨by omega, by omega, ?_⟩
  show _ = _
  split <;> omega
/-- what Rolled wants -/
abbrev okR (h o i n : Int) : Prop := (0 ≤ h ∧ h ≤ 65520) ∧ (0 ≤ o ∧ o ≤ 255) ∧ (0 ≤ i ∧ i ≤ 255) ∧ 1 ≤ n ∧ n ≤ 16
/-- what Rolled tells -/
def rolledT (h o i n : Int) : Int := if okR h o i n then rolledF h o i n.toNat else -1



end Go.Proofs.YtfoncmeplofedaqGreatDoor

namespace Go.Proofs.YtfoncmeplofedaqGreatDoor
open Go.RowKit

def risesB (l : List Int) : Bool := decide (∀ i, i < l.length → 0 < i → l.getD (i - 1) 0 < l.getD i 0)
/-- a rising list of numbers that Number takes -/
def okNums (l : List Int) : Bool := decide (∀ i, i < l.length → 0 ≤ l.getD i 0 ∧ l.getD i 0 ≤ 1099511627776) && risesB l
theorem rises_mono {l : List Int} (h : risesB l = true) (p : Nat) : ∀ d, p + d < l.length → l.getD p 0 ≤ l.getD (p + d) 0 := by
  have h1 := of_decide_eq_true h
  intro d
  induction d with
  | zero => intro _; exact Int.le_refl _
  | succ d ih =>
    intro hd
    have h2 := ih (by omega)
    have h3 := h1 (p + (d + 1)) hd (by omega)
    rw [show p + (d + 1) - 1 = p + d by omega] at h3
    omega
theorem rises_le {l : List Int} (h : risesB l = true) {p q : Nat} (h1 : p ≤ q) (h2 : q < l.length) : l.getD p 0 ≤ l.getD q 0 := by
  have := rises_mono h p (q - p) (by omega)
  rwa [show p + (q - p) = q by omega] at this
theorem okNums_range {l : List Int} (h : okNums l = true) (i : Nat) (hi : i < l.length) : 0 ≤ l.getD i 0 ∧ l.getD i 0 ≤ 1099511627776 := by
  unfold okNums at h
  simp only [Bool.and_eq_true, decide_eq_true_eq] at h
  exact h.1 i hi
theorem okNums_rises {l : List Int} (h : okNums l = true) : risesB l = true := by
  unfold okNums at h
  simp only [Bool.and_eq_true] at h
  exact h.2
theorem okNums_no {l : List Int} {i : Nat} (hi : i < l.length) (h : ¬ (0 ≤ l.getD i 0 ∧ l.getD i 0 ≤ 1099511627776)) : okNums l = false := by
  cases hk : okNums l
  · rfl
  · exact absurd (okNums_range hk i hi) h
theorem risesB_no {l : List Int} {i : Nat} (hi : i < l.length) (h0 : 0 < i) (h : ¬ l.getD (i - 1) 0 < l.getD i 0) : risesB l = false :=
  decide_eq_false fun hk => h (hk i hi h0)
theorem okNums_no2 {l : List Int} {i : Nat} (hi : i < l.length) (h0 : 0 < i) (h : ¬ l.getD (i - 1) 0 < l.getD i 0) : okNums l = false := by
  unfold okNums
  rw [risesB_no hi h0 h, Bool.and_false]

set_option maxRecDepth 100000 in
theorem l1Rises_any (va : Value) (l : List Int) (w : World) (ha : Rd w va (cellsInt64S l)) (hl : l.length ≤ 1099511627776) :
    Calls Tryz.prog 29 #[va] w fun e w' => e = .returned (.bool (risesB l)) ∧ Below w.heap.size w w' := by
  have hla : (cellsInt64S l).length = l.length := by simp
  obtain ⟨ao, cap, rfl, hcap, hx⟩ := ha
  rw [hla] at hcap hx ⊢
  have HX : Hid (0 < l.length → ∃ b off, ao = some ⟨b, off, none⟩ ∧ ∀ j, j < l.length → w.cell? ⟨b, off + j, none⟩ = some (.int .i64 (l.getD j 0))) := fun hp => by
    obtain ⟨b, off, h1, h2, h3⟩ := hx (by intro h; rw [h] at hla; simp at hla; omega)
    exact ⟨b, off, h1, fun j hj => (h3 j hj).trans (ints_get _ l j hj)⟩
  have HNO : Hid (∀ i, i < l.length → 0 < i → ¬ l.getD (i - 1) 0 < l.getD i 0 → risesB l = false) := fun i a b c => risesB_no a b c
  have HYES : Hid ((∀ i, i < l.length → 0 < i → l.getD (i - 1) 0 < l.getD i 0) → risesB l = true) := fun h => decide_eq_true h
  clear hx hla
  generalize risesB l = c at HNO HYES ⊢
  obtain ⟨n, hn⟩ : ∃ n, n = l.length := ⟨_, rfl⟩
  rw [← hn] at hcap HX HNO HYES hl ⊢
  clear hn
  go_enter Tryz.func29, Tryz.ntmps29
  go_wp2
  go_loopw [3] (fun i wr => ∃ k d : Nat, i = .int .i64 ((k : Int) + 1) ∧ (k ≤ n) ∧ wr = w.drewN d ∧ Hid (∀ m, m ≤ k → m < n → 0 < m → l.getD (m - 1) 0 < l.getD m 0)) (fun i _ => n + 1 - (intOf i).toNat)
  case atStart => exact ⟨0, 0, rfl, Nat.zero_le _, rfl, fun m h1 h2 h3 => by omega⟩
  case round =>
    obtain ⟨k, d, rfl, hk, rfl, h1⟩ := hrel
    by_cases hlt : k + 1 < n
    focus
      obtain ⟨b, off, rfl, hc⟩ := HX.out (by omega)
      have hc1 := hc (k + 1) hlt
      have hc0 := hc k (by omega)
      obtain ⟨x, hxx⟩ : ∃ x, x = l.getD k 0 := ⟨_, rfl⟩
      obtain ⟨y, hyy⟩ : ∃ y, y = l.getD (k + 1) 0 := ⟨_, rfl⟩
      have HXX : Hid (x = l.getD k 0) := hxx
      have HYY : Hid (y = l.getD (k + 1) 0) := hyy
      rw [← hxx] at hc0
      rw [← hyy] at hc1
      have hkn : k < n := by omega
      clear hxx hyy hc HX
      by_cases hle : y ≤ x
      · have hcf : Hid (c = false) := HNO.out (k + 1) hlt (by omega) (by rw [Nat.add_sub_cancel, ← HXX.out, ← HYY.out]; omega)
        clear HNO HYES
        go_wp2
        go_quiet (fail)
        go_wp2
        go_ret
        exact ⟨by rw [hcf.out]; rfl, below_drewN (below_drewN (Below.refl _ _) _) _⟩
      · go_wp2
        go_quiet (fail)
        go_wp2
        go_roundw
        case rel => exact ⟨k + 1, _, by go_num, by omega, rfl, fun m hm h2 h3 => by
          rcases Nat.lt_or_ge k m with h | h
          · obtain rfl : m = k + 1 := by omega
            rw [Nat.add_sub_cancel, ← HXX.out, ← HYY.out]; omega
          · exact h1.out m h h2 h3⟩
        case measure => simp [intOf]; omega
    have hct : Hid (c = true) := HYES.out fun i a b => h1.out i (by omega) a b
    have hlt2 : ¬ ((k : Int) + 1 < (n : Int)) := by omega
    clear HX HNO HYES h1
    go_wp2
    go_ret
    exact ⟨by rw [hct.out]; rfl, below_drewN (Below.refl _ _) _⟩

theorem okNums_yes {l : List Int} (h : ∀ i, i < l.length → 0 ≤ l.getD i 0 ∧ l.getD i 0 ≤ 1099511627776) : okNums l = risesB l := by
  unfold okNums
  rw [decide_eq_true h, Bool.true_and]

set_option maxRecDepth 100000 in
theorem numbersRise_any (va : Value) (l : List Int) (w : World) (ha : Rd w va (cellsInt64S l)) (hl : l.length ≤ 1099511627776) :
    Calls Tryz.prog 49 #[va] w fun e w' => e = .returned (.bool (okNums l)) ∧ w' = w := by
  have hla : (cellsInt64S l).length = l.length := by simp
  obtain ⟨ao, cap, rfl, hcap, hx⟩ := ha
  rw [hla] at hcap hx ⊢
  have HX : Hid (∀ j, j < l.length → ∃ b off, ao = some ⟨b, off, none⟩ ∧ w.cell? ⟨b, off + j, none⟩ = some (.int .i64 (l.getD j 0))) := fun j hj => by
    obtain ⟨b, off, h1, h2, h3⟩ := hx (by intro h; rw [h] at hla; simp at hla; omega)
    exact ⟨b, off, h1, (h3 j hj).trans (ints_get _ l j hj)⟩
  have HNO : Hid (∀ i, i < l.length → ¬ (0 ≤ l.getD i 0 ∧ l.getD i 0 ≤ 1099511627776) → okNums l = false) := fun i a b => okNums_no a b
  have HNO2 : Hid (∀ i, i < l.length → 0 < i → ¬ l.getD (i - 1) 0 < l.getD i 0 → okNums l = false) := fun i a b c => okNums_no2 a b c
  have HYES : Hid ((∀ i, i < l.length → (0 ≤ l.getD i 0 ∧ l.getD i 0 ≤ 1099511627776) ∧ (0 < i → l.getD (i - 1) 0 < l.getD i 0)) → okNums l = true) := fun h => by
    rw [okNums_yes (fun i hi => (h i hi).1)]
    exact decide_eq_true (fun i hi h0 => (h i hi).2 h0)
  clear hx hla
  generalize okNums l = c at HNO HNO2 HYES ⊢
  obtain ⟨n, hn⟩ : ∃ n, n = l.length := ⟨_, rfl⟩
  rw [← hn] at hcap HX HNO HNO2 HYES hl ⊢
  clear hn
  go_enter Tryz.func49, Tryz.ntmps49
  go_wp2
  go_loop [3, 8] (fun q i => ∃ (k : Nat) (z : Int), i = .int .i64 k ∧ q = .int .i64 z ∧ k ≤ n ∧ -1 ≤ z ∧ Hid (k = 0 → z = -1) ∧ Hid (0 < k → z = l.getD (k - 1) 0) ∧ Hid (∀ m, m < k → (0 ≤ l.getD m 0 ∧ l.getD m 0 ≤ 1099511627776) ∧ (0 < m → l.getD (m - 1) 0 < l.getD m 0))) (fun _ i => n - (intOf i).toNat)
  case atStart => exact ⟨0, -1, rfl, rfl, Nat.zero_le _, by omega, fun _ => rfl, fun h => by omega, fun m h => by omega⟩
  case round =>
    obtain ⟨k, z, rfl, rfl, hk, hz, hz0, hz1, h1⟩ := hrel
    by_cases hlt : k < n
    focus
      obtain ⟨b, off, rfl, hc⟩ := HX.out k hlt
      obtain ⟨x, hxx⟩ : ∃ x, x = l.getD k 0 := ⟨_, rfl⟩
      have HXX : Hid (x = l.getD k 0) := hxx
      rw [← hxx] at hc
      clear hxx
      by_cases hle : x ≤ z
      · have hcf : Hid (c = false) := by
          rcases Nat.eq_zero_or_pos k with h | h
          · have := hz0.out h
            exact HNO.out k hlt (by rw [← HXX.out]; omega)
          · have := hz1.out h
            exact HNO2.out k hlt h (by rw [← HXX.out, ← this]; omega)
        clear HNO HNO2 HYES
        go_wp2
        go_ret
        exact ⟨by rw [hcf.out]; rfl, rfl⟩
      · by_cases hbg : 1099511627776 < x
        · have hcf : Hid (c = false) := HNO.out k hlt (by rw [← HXX.out]; omega)
          clear HNO HNO2 HYES
          go_wp2
          go_ret
          exact ⟨by rw [hcf.out]; rfl, rfl⟩
        · have h2 : Hid (∀ m, m < k + 1 → (0 ≤ l.getD m 0 ∧ l.getD m 0 ≤ 1099511627776) ∧ (0 < m → l.getD (m - 1) 0 < l.getD m 0)) := fun m hm => by
            rcases Nat.lt_or_ge m k with h | h
            · exact h1.out m h
            · obtain rfl : m = k := by omega
              rw [← HXX.out]
              exact ⟨by omega, fun h0 => by rw [← hz1.out h0]; omega⟩
          have h3 : Hid (0 < k + 1 → x = l.getD (k + 1 - 1) 0) := fun _ => by rw [Nat.add_sub_cancel]; exact HXX.out
          go_wp2
          go_round
          case rel => exact ⟨k + 1, x, by go_num, rfl, by omega, by omega, fun h => by omega, h3, h2⟩
          case measure => simp [intOf]; omega
    have hct : Hid (c = true) := HYES.out fun i hi => h1.out i (by omega)
    clear HX HNO HNO2 HYES h1 hz0 hz1
    go_wp2
    go_ret
    exact ⟨by rw [hct.out]; rfl, rfl⟩
end Go.Proofs.YtfoncmeplofedaqGreatDoor

namespace Go.Proofs.YtfoncmeplofedaqGreatDoor
open Go.RowKit
set_option linter.unusedVariables false
/-- kind, number, text -/
abbrev Nt := Int × Int × ByteArray
abbrev nt0 : Nt := (0, 0, ByteArray.empty)
/-- the marks of a sweep are numbers that rise -/
def marksB (t : ByteArray) : Bool := match readNums (byts t) with
  | some l => risesB l
  | none => false
def noteB (p : Nt) : Bool := (decide (0 ≤ p.2.1 ∧ p.2.1 ≤ 100000) && decide (p.2.2.size ≤ 2000)) && (if p.1 = 2 then marksB p.2.2 else decide (p.1 = 1))
def bodyT (p : Nt) : ByteArray := asB (textsB [asB (numsB [p.1, p.2.1]), p.2.2])
def showL (p : Nt) : List Int := enc (bodyT p).size ++ byts (bodyT p) ++ enc (digest (bodyT p)).toNat
def showT (p : Nt) : ByteArray := if noteB p = true then asB (showL p) else ByteArray.empty
/-- what the head of a disk tells -/
def headT (d : ByteArray) (n k : Nat) : Option Nt := match readTexts (d.extract k (k + n)) with
  | some [h, t] => (match readNums (byts h) with
      | some [a, b] => some (a, b, t)
      | _ => none)
  | _ => none
/-- the note with which a disk begins, and how many bytes it takes -/
def noteT (d : ByteArray) : Option (Nt × Nat) := match rd (byts d) with
  | some (n, k) => if d.size - k < n then none else (match headT d n k with
      | some p => if (showT p).size ≠ 0 ∧ (showT p).size ≤ d.size ∧ d.extract 0 (showT p).size = showT p then some (p, (showT p).size) else none
      | none => none)
  | none => none
theorem noteT_pos {d : ByteArray} {p : Nt} {n : Nat} (h : noteT d = some (p, n)) : 0 < n ∧ n ≤ d.size ∧ showT p = d.extract 0 n := by
  unfold noteT at h
  split at h
  · split at h
    · cases h
    · split at h
      · split at h
        · rename_i h9
          simp only [Option.some.injEq, Prod.mk.injEq] at h
          obtain ⟨rfl, rfl⟩ := h
          exact ⟨by omega, h9.2.1, h9.2.2.symm⟩
        · cases h
      · cases h
  · cases h
/-- the notes from a place on, and where they end -/
def notesF : Nat → ByteArray → Nat → List Nt × Nat
  | 0, _, k => ([], k)
  | f + 1, d, k => match noteT (d.extract k d.size) with
    | some (p, n) => (p :: (notesF f d (k + n)).1, (notesF f d (k + n)).2)
    | none => ([], k)
def notesT (d : ByteArray) : List Nt × Nat := notesF (d.size + 1) d 0
theorem notesF_hit {f : Nat} {d : ByteArray} {k n : Nat} {p : Nt} (h : noteT (d.extract k d.size) = some (p, n)) : notesF (f + 1) d k = (p :: (notesF f d (k + n)).1, (notesF f d (k + n)).2) := by
  show (match noteT (d.extract k d.size) with | some (p, n) => _ | none => _) = _
  rw [h]
theorem notesF_end {f : Nat} {d : ByteArray} {k : Nat} (h : noteT (d.extract k d.size) = none) : notesF (f + 1) d k = ([], k) := by
  show (match noteT (d.extract k d.size) with | some (p, n) => _ | none => _) = _
  rw [h]
end Go.Proofs.YtfoncmeplofedaqGreatDoor

namespace Go.Proofs.YtfoncmeplofedaqGreatDoor
open Go.RowKit
set_option linter.unusedVariables false
theorem noteB_parts {k a : Int} {t : ByteArray} (h : noteB (k, a, t) = true) : (k = 1 ∨ k = 2) ∧ (0 ≤ a ∧ a ≤ 100000) ∧ t.size ≤ 2000 := by
  unfold noteB at h
  rw [Bool.and_eq_true, Bool.and_eq_true] at h
  obtain ⟨⟨h1, h2⟩, h3⟩ := h
  refine ⟨?_, of_decide_eq_true h1, of_decide_eq_true h2⟩
  by_cases hk : k = 2
  · exact Or.inr hk
  · rw [if_neg hk] at h3
    exact Or.inl (of_decide_eq_true h3)
/-- the head's text -/
def headB (k a : Int) : ByteArray := asB (numsB [k, a])
theorem head_is {k a : Int} (hk : 0 ≤ k ∧ k ≤ 1099511627776) (ha : 0 ≤ a ∧ a ≤ 1099511627776) : byts (headB k a) = enc 2 ++ flat [k, a] ∧ (headB k a).size ≤ 2000 ∧ readNums (byts (headB k a)) = some [k, a] := by
  have hok : ∀ x ∈ [k, a], okN x := fun x hx => by
    rcases List.mem_cons.1 hx with rfl | hx
    · exact hk
    · rw [List.mem_singleton] at hx; subst hx; exact ha
  have e : numsB [k, a] = enc 2 ++ flat [k, a] := by unfold numsB; rw [if_pos ⟨by simp, hok⟩]; rfl
  have hb : Bytes (numsB [k, a]) := by
    rw [e]
    intro x hx
    rcases List.mem_append.1 hx with h | h
    · exact enc_bytes 2 x h
    · rw [flat_cons, flat_cons] at h
      rcases List.mem_append.1 h with h | h
      · exact enc_bytes _ x h
      · rcases List.mem_append.1 h with h | h
        · exact enc_bytes _ x h
        · simp [flat] at h
  have e2 : byts (headB k a) = enc 2 ++ flat [k, a] := by unfold headB; rw [asB_byts _ hb, e]
  refine ⟨e2, ?_, ?_⟩
  · rw [← byts_len, e2, List.length_append]
    have h1 := flat_len [k, a] hok
    have h2 := enc_len6 2 (by omega)
    simp only [List.length_cons, List.length_nil] at h1
    omega
  · rw [e2]
    have h9 := read_laid [k, a] [] (by simp) hok
    rw [List.append_nil, if_pos rfl] at h9
    exact h9
theorem body_is {k a : Int} {t : ByteArray} (hk : 0 ≤ k ∧ k ≤ 1099511627776) (ha : 0 ≤ a ∧ a ≤ 1099511627776) (ht : t.size ≤ 2000) : (bodyT (k, a, t)).size ≤ 4018 ∧ readTexts (bodyT (k, a, t)) = some [headB k a, t] := by
  obtain ⟨h1, h2, h3⟩ := head_is hk ha
  have hok : ∀ s ∈ [headB k a, t], s.size ≤ 2000 := fun s hs => by
    rcases List.mem_cons.1 hs with rfl | hs
    · exact h2
    · rw [List.mem_singleton] at hs; subst hs; exact ht
  have e : textsB [headB k a, t] = enc 2 ++ flatT [headB k a, t] := by unfold textsB; rw [if_pos ⟨by simp, hok⟩]; rfl
  have hb : Bytes (textsB [headB k a, t]) := by
    rw [e]
    intro x hx
    rcases List.mem_append.1 hx with h | h
    · exact enc_bytes 2 x h
    · rw [flatT_cons, flatT_cons] at h
      rcases List.mem_append.1 h with h | h
      · rcases List.mem_append.1 h with h | h
        · exact enc_bytes _ x h
        · exact byts_bytes _ x h
      · rcases List.mem_append.1 h with h | h
        · rcases List.mem_append.1 h with h | h
          · exact enc_bytes _ x h
          · exact byts_bytes _ x h
        · simp [flatT] at h
  have e2 : byts (bodyT (k, a, t)) = enc 2 ++ flatT [headB k a, t] := by
    show byts (asB (textsB [headB k a, t])) = _
    rw [asB_byts _ hb, e]
  refine ⟨?_, ?_⟩
  · rw [← byts_len, e2, List.length_append]
    have h4 := flatT_len [headB k a, t] hok
    have h5 := enc_len6 2 (by omega)
    simp only [List.length_cons, List.length_nil] at h4
    omega
  · have h9 := read_laidT [headB k a, t] [] (bodyT (k, a, t)) (by rw [e2, List.append_nil]; rfl) (by simp) hok
    rw [if_pos rfl] at h9
    exact h9
theorem showL_bytes (p : Nt) : Bytes (showL p) := by
  unfold showL
  intro x hx
  rcases List.mem_append.1 hx with h | h
  · rcases List.mem_append.1 h with h | h
    · exact enc_bytes _ x h
    · exact byts_bytes _ x h
  · exact enc_bytes _ x h
theorem showT_is {p : Nt} (h : noteB p = true) : byts (showT p) = showL p ∧ (showT p).size = (showL p).length ∧ 0 < (showL p).length := by
  have e : showT p = asB (showL p) := by unfold showT; rw [if_pos h]
  rw [e, asB_byts _ (showL_bytes p), asB_size]
  refine ⟨rfl, rfl, ?_⟩
  unfold showL
  rw [List.length_append, List.length_append]
  have := enc_pos (bodyT p).size
  omega
/-- what is shown is the first note of a disk that begins with it -/
theorem note_show {p : Nt} (h : noteB p = true) {d : ByteArray} {rest : List Int} (hd : byts d = showL p ++ rest) : noteT d = some (p, (showL p).length) := by
  obtain ⟨k, a, t⟩ := p
  obtain ⟨hk, ha, ht⟩ := noteB_parts h
  obtain ⟨s1, s2, s3⟩ := showT_is h
  have hk9 : 0 ≤ k ∧ k ≤ 1099511627776 := by rcases hk with rfl | rfl <;> exact ⟨by decide, by decide⟩
  obtain ⟨b1, b2⟩ := body_is hk9 (show 0 ≤ a ∧ a ≤ 1099511627776 by omega) ht
  have hh := (head_is hk9 (show 0 ≤ a ∧ a ≤ 1099511627776 by omega)).2.2
  have hsz : d.size = (showL (k, a, t)).length + rest.length := by rw [← byts_len, hd, List.length_append]
  have hfull : showL (k, a, t) = enc (bodyT (k, a, t)).size ++ (byts (bodyT (k, a, t)) ++ enc (digest (bodyT (k, a, t))).toNat) := by unfold showL; rw [List.append_assoc]
  have hrd : rd (byts d) = some ((bodyT (k, a, t)).size, (enc (bodyT (k, a, t)).size).length) := by
    rw [hd, hfull, List.append_assoc]
    exact enc_rd (by omega) _
  have hlen : (showL (k, a, t)).length = (enc (bodyT (k, a, t)).size).length + (bodyT (k, a, t)).size + (enc (digest (bodyT (k, a, t))).toNat).length := by
    rw [hfull, List.length_append, List.length_append, byts_len]; omega
  have hex : d.extract (enc (bodyT (k, a, t)).size).length ((enc (bodyT (k, a, t)).size).length + (bodyT (k, a, t)).size) = bodyT (k, a, t) := by
    apply byts_inj
    rw [byts_extract, hd, hfull, List.append_assoc, List.drop_left, Nat.add_sub_cancel_left, List.append_assoc]
    exact List.take_left' (byts_len _)
  have hhead : headT d (bodyT (k, a, t)).size (enc (bodyT (k, a, t)).size).length = some (k, a, t) := by
    unfold headT
    rw [hex, b2]
    show (match readNums (byts (headB k a)) with | some [a, b] => some (a, b, t) | _ => none) = _
    rw [hh]
  unfold noteT
  rw [hrd]
  show (if d.size - (enc (bodyT (k, a, t)).size).length < (bodyT (k, a, t)).size then none else _) = _
  rw [if_neg (by omega), hhead]
  show (if (showT (k, a, t)).size ≠ 0 ∧ (showT (k, a, t)).size ≤ d.size ∧ d.extract 0 (showT (k, a, t)).size = showT (k, a, t) then some ((k, a, t), (showT (k, a, t)).size) else none) = _
  rw [if_pos, s2]
  refine ⟨by omega, by omega, ?_⟩
  apply byts_inj
  rw [byts_extract, s1, s2, hd, List.drop_zero, Nat.sub_zero]
  exact List.take_left' rfl
end Go.Proofs.YtfoncmeplofedaqGreatDoor

namespace Go.Proofs.YtfoncmeplofedaqGreatDoor
open Go.RowKit
set_option linter.unusedVariables false
/-- each element has so many cells, each of them one cell -/
structure Wid {α : Type} (f : α → List Value) (k : Nat) : Prop where
  pos : 0 < k
  len : ∀ x, (f x).length = k
  one : ∀ x, ∀ u ∈ f x, u.oneCell' = true
def rowC {α : Type} (f : α → List Value) (l : List α) : List Value := l.flatMap f
section
variable {α : Type} {f : α → List Value} {k : Nat}
theorem rowC_nil : rowC f [] = [] := rfl
theorem rowC_cons (p : α) (l : List α) : rowC f (p :: l) = f p ++ rowC f l := rfl
theorem rowC_append (l m : List α) : rowC f (l ++ m) = rowC f l ++ rowC f m := by unfold rowC; rw [List.flatMap_append]
theorem rowC_len (hf : Wid f k) (l : List α) : (rowC f l).length = l.length * k := by
  induction l with
  | nil => simp [rowC]
  | cons p t ih => rw [rowC_cons, List.length_append, hf.len, ih, List.length_cons, Nat.succ_mul]; omega
theorem rowC_one (hf : Wid f k) (l : List α) : ∀ u ∈ rowC f l, u.oneCell' = true := by
  intro u hu
  obtain ⟨p, _, h⟩ := List.mem_flatMap.1 hu
  exact hf.one p u h
theorem rowC_get (hf : Wid f k) : ∀ (l : List α) (i : Nat) (h : i < l.length) (j : Nat), j < k → (rowC f l)[i * k + j]? = (f l[i])[j]?
  | p :: t, 0, _, j, hj => by
    rw [rowC_cons, Nat.zero_mul, Nat.zero_add, List.getElem?_append_left (by rw [hf.len]; exact hj)]
    rfl
  | p :: t, i + 1, h, j, hj => by
    have e := rowC_get hf t i (by simpa using h) j hj
    rw [rowC_cons, List.getElem?_append_right (by rw [hf.len, Nat.succ_mul]; omega), hf.len, show (i + 1) * k + j - k = i * k + j by rw [Nat.succ_mul]; omega, e]
    rfl
theorem rowC_set (hf : Wid f k) : ∀ (l : List α) (i : Nat) (h : i < l.length) (j : Nat) (u : Value) (y : α), j < k → f y = (f l[i]).set j u → (rowC f l).set (i * k + j) u = rowC f (l.set i y)
  | p :: t, 0, _, j, u, y, hj, hy => by
    rw [List.set_cons_zero, rowC_cons, rowC_cons, hy, Nat.zero_mul, Nat.zero_add, List.set_append_left _ _ (by rw [hf.len]; exact hj)]
    rfl
  | p :: t, i + 1, h, j, u, y, hj, hy => by
    have e := rowC_set hf t i (by simpa using h) j u y hj hy
    rw [List.set_cons_succ, rowC_cons, rowC_cons, List.set_append_right _ _ (by rw [hf.len, Nat.succ_mul]; omega), hf.len, show (i + 1) * k + j - k = i * k + j by rw [Nat.succ_mul]; omega, e]
theorem rowC_take (hf : Wid f k) (l : List α) (m : Nat) (hm : m ≤ l.length) : (rowC f l).take (m * k) = rowC f (l.take m) := by
  have e : rowC f l = rowC f (l.take m) ++ rowC f (l.drop m) := by rw [← rowC_append, List.take_append_drop]
  have hle : (rowC f (l.take m)).length = m * k := by rw [rowC_len hf, List.length_take, Nat.min_eq_left hm]
  rw [e, ← hle, List.take_left]
theorem rowC_drop (hf : Wid f k) (l : List α) (m : Nat) (hm : m ≤ l.length) : (rowC f l).drop (m * k) = rowC f (l.drop m) := by
  have e : rowC f l = rowC f (l.take m) ++ rowC f (l.drop m) := by rw [← rowC_append, List.take_append_drop]
  have hle : (rowC f (l.take m)).length = m * k := by rw [rowC_len hf, List.length_take, Nat.min_eq_left hm]
  rw [e, ← hle, List.drop_left]
/-- the elements' cells lie at b, off -/
def CellsG (f : α → List Value) (k b off : Nat) (l : List α) (w : World) : Prop := ∀ (i : Nat) (h : i < l.length) (j : Nat) (u : Value), (f l[i])[j]? = some u → w.cell? ⟨b, off + i * k + j, none⟩ = some u
theorem cellsG_below {b off : Nat} {l : List α} {w w' : World} (h : CellsG f k b off l w) (hlt : b < w.heap.size) (hb : Below w.heap.size w w') : CellsG f k b off l w' :=
  fun i hi j u hu => (hb.cell (p := ⟨b, off + i * k + j, none⟩) hlt).trans (h i hi j u hu)
theorem cellsG_at (hf : Wid f k) {b off : Nat} {l : List α} {w : World} (h : CellsG f k b off l w) : ∀ j u, (rowC f l)[j]? = some u → w.cell? (Addr.add ⟨b, off, none⟩ j) = some u := by
  intro j u hu
  have hj := (List.getElem?_eq_some_iff.1 hu).1
  rw [rowC_len hf] at hj
  have hd := Nat.div_add_mod j k
  have hm := Nat.mod_lt j hf.pos
  have hi : j / k < l.length := Nat.div_lt_of_lt_mul (by rw [Nat.mul_comm]; exact hj)
  have e : j / k * k + j % k = j := by rw [Nat.mul_comm]; exact hd
  have hg := rowC_get hf l (j / k) hi (j % k) hm
  rw [e, hu] at hg
  have h9 := h (j / k) hi (j % k) u hg.symm
  rw [Nat.add_assoc, e] at h9
  rw [Addr.add_lit]
  exact h9
/-- a slice of structs that can be read -/
def RdG (f : α → List Value) (k : Nat) (w : World) (v : Value) (l : List α) : Prop :=
  ∃ ao cap, v = .slice ao l.length cap ∧ l.length ≤ cap ∧ (l ≠ [] → ∃ b off, ao = some ⟨b, off, none⟩ ∧ b < w.heap.size ∧ CellsG f k b off l w)
abbrev OwnG (f : α → List Value) (k : Nat) (e : TypeId) (w : World) (B : Nat) (v : Value) (l : List α) : Prop := w.ownsRow B e k v l.length (rowC f l)
theorem rdG_below {w w' : World} {v : Value} {l : List α} (h : RdG f k w v l) (hb : Below w.heap.size w w') : RdG f k w' v l := by
  obtain ⟨ao, cap, hv, hcap, hx⟩ := h
  refine ⟨ao, cap, hv, hcap, fun hne => ?_⟩
  obtain ⟨b, off, ha, hlt, hc⟩ := hx hne
  exact ⟨b, off, ha, Nat.lt_of_lt_of_le hlt hb.size, cellsG_below hc hlt hb⟩
theorem cellsG_own (hf : Wid f k) {w : World} {B : Nat} {e : TypeId} {g cap : Nat} {l : List α} (h : w.ownsRow B e k (.slice (some ⟨g, 0, none⟩) l.length cap) l.length (rowC f l)) : CellsG f k g 0 l w := by
  intro i hi j u hu
  have hj : j < k := by have h9 := (List.getElem?_eq_some_iff.1 hu).1; rwa [hf.len] at h9
  have hg := rowC_get hf l i hi j hj
  rw [Nat.zero_add, ← hu, ← hg]
  have hlt : i * k + j < l.length * k := by
    have : (i + 1) * k ≤ l.length * k := Nat.mul_le_mul_right k hi
    rw [Nat.succ_mul] at this
    omega
  exact h.cellAt (i * k + j) hlt
theorem rdG_owns (hf : Wid f k) {w : World} {B : Nat} {e : TypeId} {v : Value} {l : List α} (h : OwnG f k e w B v l) : RdG f k w v l := by
  have hw0 := h
  rcases h.2 with ⟨rfl, h0⟩ | ⟨g, cap, cur, rfl, hg, hh, hn, hm, hs, ht⟩
  · obtain rfl : l = [] := List.eq_nil_of_length_eq_zero h0
    exact ⟨none, 0, rfl, Nat.le_refl _, fun h => absurd rfl h⟩
  · exact ⟨_, cap, rfl, hn, fun _ => ⟨g, 0, rfl, (Array.getElem?_eq_some_iff.1 hh).1, cellsG_own hf hw0⟩⟩
/-- the walk's view of it -/
theorem rdG_cases {w : World} {v : Value} {l : List α} (h : RdG f k w v l) :
    (l = [] ∧ ∃ ao cap, v = .slice ao 0 cap) ∨ (0 < l.length ∧ ∃ b off cap, v = .slice (some ⟨b, off, none⟩) l.length cap ∧ l.length ≤ cap ∧ b < w.heap.size ∧ CellsG f k b off l w) := by
  obtain ⟨ao, cap, hv, hcap, hx⟩ := h
  by_cases h0 : l = []
  · subst h0
    exact Or.inl ⟨rfl, ao, cap, hv⟩
  · obtain ⟨b, off, rfl, h2, h3⟩ := hx h0
    exact Or.inr ⟨List.length_pos_iff.2 h0, b, off, cap, hv, hcap, h2, h3⟩
theorem rdG_shape {w : World} {v : Value} {l : List α} (h : RdG f k w v l) : ∃ ao cap, v = .slice ao l.length cap := by
  obtain ⟨ao, cap, hv, _⟩ := h
  exact ⟨ao, cap, hv⟩
theorem ownG_shape {w : World} {B : Nat} {e : TypeId} {v : Value} {l : List α} (h : OwnG f k e w B v l) : ∃ ao cap, v = .slice ao l.length cap := by
  rcases h.2 with ⟨rfl, h0⟩ | ⟨g, cap, cur, rfl, _⟩
  · exact ⟨none, 0, by rw [h0]⟩
  · exact ⟨_, cap, rfl⟩
/-- an owned row at its block -/
theorem ownG_cases (hf : Wid f k) {w : World} {B : Nat} {e : TypeId} {v : Value} {l : List α} (h : OwnG f k e w B v l) :
    (l = [] ∧ v = .slice none 0 0) ∨ ∃ g cap cur, v = .slice (some ⟨g, 0, none⟩) l.length cap ∧ B ≤ g ∧ g < w.heap.size ∧ l.length ≤ cap ∧ cap ≤ maxLen ∧ w.heap[g]? = some (.cells cur e (0, 0)) ∧ cur.size = cap * k ∧ cur.toList.take (l.length * k) = rowC f l ∧ CellsG f k g 0 l w := by
  have h0 := h
  rcases h.2 with ⟨h1, h2⟩ | ⟨g, cap, cur, rfl, hg, hh, hn, hm, hs, ht⟩
  · exact Or.inl ⟨List.eq_nil_of_length_eq_zero h2, h1⟩
  · exact Or.inr ⟨g, cap, cur, rfl, hg, (Array.getElem?_eq_some_iff.1 hh).1, hn, hm, hh, hs, ht, cellsG_own hf h0⟩
theorem ownG_nil (w : World) (B : Nat) (e : TypeId) : OwnG f k e w B (.slice none 0 0) [] := ⟨by simp [rowC], Or.inl ⟨rfl, rfl⟩⟩
/-- one element, as append's argument -/
theorem rdG_one (hf : Wid f k) (w : World) (x : α) (e : TypeId) : RdG f k (w.alloc (.cells (f x).toArray e)) (.slice (some ⟨w.heap.size, 0, none⟩) 1 1) [x] := by
  refine ⟨_, 1, rfl, Nat.le_refl _, fun _ => ⟨_, 0, rfl, by rw [World.size_alloc]; omega, fun i hi j u hu => ?_⟩⟩
  obtain rfl : i = 0 := by simpa using hi
  rw [Nat.zero_mul, Nat.zero_add, cell_of_row _ w.heap.size j _ _ (0, 0) (heap_alloc_new w (.cells (f x).toArray e)), List.getElem?_toArray]
  exact hu
/-- the head of a row -/
theorem rdG_take {w : World} {ao : Option Addr} {n cap : Nat} {l : List α} (h : RdG f k w (.slice ao n cap) l) (m : Nat) (hm : m ≤ l.length) : RdG f k w (.slice ao m cap) (l.take m) := by
  obtain ⟨ao', cap', hv, hcap, hx⟩ := h
  simp only [Value.slice.injEq] at hv
  obtain ⟨rfl, rfl, rfl⟩ := hv
  have hl : (l.take m).length = m := by rw [List.length_take]; omega
  refine ⟨ao, cap, by rw [hl], by omega, fun hne => ?_⟩
  obtain ⟨b, off, ha, hlt, hc⟩ := hx (fun h0 => hne (by rw [h0]; simp))
  refine ⟨b, off, ha, hlt, fun i hi j u hu => ?_⟩
  rw [hl] at hi
  rw [List.getElem_take] at hu
  exact hc i (by omega) j u hu
/-- the tail of a row -/
theorem rdG_drop {w : World} {b off n cap : Nat} {l : List α} (h : RdG f k w (.slice (some ⟨b, off, none⟩) n cap) l) (m c' : Nat) (hm : m ≤ l.length) (hc' : l.length - m ≤ c') : RdG f k w (.slice (some ⟨b, off + m * k, none⟩) (n - m) c') (l.drop m) := by
  obtain ⟨ao', cap', hv, hcap, hx⟩ := h
  simp only [Value.slice.injEq] at hv
  obtain ⟨rfl, rfl, rfl⟩ := hv
  have hl : (l.drop m).length = l.length - m := List.length_drop
  refine ⟨_, c', by rw [hl], by omega, fun hne => ?_⟩
  obtain ⟨b', off', ha, hlt, hc⟩ := hx (fun h0 => hne (by rw [h0]; simp))
  simp only [Option.some.injEq, Addr.mk.injEq, and_true] at ha
  obtain ⟨rfl, rfl⟩ := ha
  refine ⟨b, off + m * k, rfl, hlt, fun i hi j u hu => ?_⟩
  rw [hl] at hi
  rw [List.getElem_drop] at hu
  have h9 := hc (m + i) (by omega) j u hu
  rw [show off + (m + i) * k + j = off + m * k + i * k + j by rw [Nat.add_mul]; omega] at h9
  exact h9
/-- what append of a row of structs is about: the type's facts -/
structure TyG (P : Program) (t e : TypeId) (k bytes : Nat) : Prop where
  und : P.underlying t = some (.slice e)
  inf : ∃ z, z.cells.size = k ∧ (P.info? e).map (fun i => (i.zero, i.size, i.bytes)) = some (some z, k, bytes)
  small : bytes ≤ 4096
theorem append_G {P : Program} {t e : TypeId} {bytes : Nat} (ht : TyG P t e k bytes) (hf : Wid f k) (w : World) (ty : TypeId) (B : Nat) (v u : Value) (xs ys : List α) (h : OwnG f k e w B v xs) (hu : RdG f k w u ys) (hl : xs.length + ys.length ≤ 16777216) (hB : B ≤ w.heap.size) :
    ∃ v' w', (Builtin.append_ #[t, t] ty #[v, u]).run P w = .ok v' w' ∧ OwnG f k e w' B v' (xs ++ ys) ∧ w.grownBy w' v.ownBlock ∧ ∀ q, v'.ownBlock = some q → v.ownBlock = some q ∨ w.heap.size ≤ q := by
  obtain ⟨z, hz, hi⟩ := ht.inf
  obtain ⟨i0, hi0, hz0, hz1, hz2⟩ := info_parts hi
  have go : ∀ (ad : Addr) (c : Nat), u = .slice (some ad) ys.length c → (∀ j x, (rowC f ys)[j]? = some x → w.cell? (ad.add j) = some x) → ∃ v' w', (Builtin.append_ #[t, t] ty #[v, u]).run P w = .ok v' w' ∧ OwnG f k e w' B v' (xs ++ ys) ∧ w.grownBy w' v.ownBlock ∧ ∀ q, v'.ownBlock = some q → v.ownBlock = some q ∨ w.heap.size ≤ q := fun ad c hv hc => by
    have hby : (xs.length + ys.length) * bytes ≤ 140737488355328 := Nat.le_trans (Nat.mul_le_mul hl ht.small) (by omega)
    obtain ⟨v', w', h1, h2, h3, _, h4⟩ := run_append_own_at (P := P) w B t ty e i0 z k bytes ht.und hi0 hz0 hz1 hz2 hz hf.pos v xs.length (rowC f xs) h ad ys.length c (rowC f ys) (rowC_len hf ys) hc (rowC_one hf ys) (by unfold maxLen; omega) hby hB
    subst hv
    rw [← rowC_append, ← List.length_append] at h2
    refine ⟨v', w', h1, h2, h3, fun q hq => ?_⟩
    rcases h4 with h4 | h4
    · exact Or.inl (h4 ▸ hq)
    · rw [hq] at h4
      exact Or.inr (by rw [Option.some.inj h4]; exact Nat.le_refl _)
  rcases rdG_cases hu with ⟨h0, ao, cap, rfl⟩ | ⟨hp, b, off, cap, rfl, _, hlt, hc⟩
  · subst h0
    cases ao with
    | some ad => exact go ad cap rfl (fun j x hx => by cases hx)
    | none =>
      rw [List.append_nil]
      have hs : Src P i0.size t (.slice none 0 cap) 0 [] w := Src.ofNil w ht.und cap
      have h9 := h
      rcases h.2 with ⟨rfl, h0⟩ | ⟨g, c, cur, rfl, hg, hh, hn, hm, hs2, htk⟩
      · exact ⟨_, w, run_append_nothing w t t ty e i0 ht.und hi0 none 0 0 (Nat.le_refl _) _ hs, h9, World.grownBy.refl _ _, fun q hq => Or.inl hq⟩
      · exact ⟨_, w, run_append_nothing w t t ty e i0 ht.und hi0 _ _ _ hn _ hs, h9, World.grownBy.refl _ _, fun q hq => Or.inl hq⟩
  · exact go ⟨b, off, none⟩ cap rfl (cellsG_at hf hc)
theorem own_stepG {P : Program} {t e : TypeId} {bytes : Nat} (ht : TyG P t e k bytes) (hf : Wid f k) {ops : Array Oper} {rest : List Oper} {o : Oper} {a : Act} {w : World} {Q : Exit → Act → World → Prop} (hgd : o.guard = none) (s x : Operand)
    (ho : o.op = .call { callee := .builtin .append, args := #[s, x], argTypes := #[t, t] })
    (B : Nat) (v u : Value) (xs ys : List α) (hs : a.eval s = v) (hx : a.eval x = u) (h : OwnG f k e w B v xs) (hu : RdG f k w u ys) (hl : xs.length + ys.length ≤ 16777216) (hB : B ≤ w.heap.size)
    (hK : ∀ v' w', OwnG f k e w' B v' (xs ++ ys) → w.grownBy w' v.ownBlock → (∀ q, v'.ownBlock = some q → v.ownBlock = some q ∨ w.heap.size ≤ q) → wpList P ops Q rest (a.put o.dst v') w') : wpList P ops Q (o :: rest) a w := by
  refine wpList_plain hgd fun K hK' => ?_
  obtain ⟨v', w', hrun, r1, r2, r3⟩ := append_G ht hf w o.type B v u xs ys h hu hl hB
  unfold Oper.wp
  simp [execOp, ho, resolve, invoke, builtin, hs, hx, hrun, Result.andThen]
  exact hK' _ _ (hK v' w' r1 r2 r3)
/-- in a drawn region -/
theorem step_ownG {P : Program} {t e : TypeId} {bytes : Nat} (ht : TyG P t e k bytes) (hf : Wid f k) {ops : Array Oper} {o : Oper} {a : Act} {w : World} {K : Act → World → Prop} {Q : Exit → Act → World → Prop} {E : Prop} (hgd : o.guard = none) (s x : Operand)
    (ho : o.op = .call { callee := .builtin .append, args := #[s, x], argTypes := #[t, t] })
    (B : Nat) (v u : Value) (xs ys : List α) (hs : a.eval s = v) (hx : a.eval x = u) (h : OwnG f k e w B v xs) (hu : RdG f k w u ys) (hl : xs.length + ys.length ≤ 16777216) (hB : B ≤ w.heap.size)
    (hK : ∀ v' w', OwnG f k e w' B v' (xs ++ ys) → w.grownBy w' v.ownBlock → (∀ q, v'.ownBlock = some q → v.ownBlock = some q ∨ w.heap.size ≤ q) → K (a.put o.dst v') w') :
    if Region.wanted o (yielded ops a.tmps) = true then Oper.wp P o a w K Q else E := by
  have hw : Region.wanted o (yielded ops a.tmps) = true := by simp [Region.wanted, hgd]
  rw [if_pos hw]
  obtain ⟨v', w', hrun, r1, r2, r3⟩ := append_G ht hf w o.type B v u xs ys h hu hl hB
  unfold Oper.wp
  simp [execOp, ho, resolve, invoke, builtin, hs, hx, hrun, Result.andThen]
  exact hK v' w' r1 r2 r3
theorem elem_G {P : Program} {t e : TypeId} {bytes : Nat} (ht : TyG P t e k bytes) : P.elem t = e := by
  unfold Program.elem
  rw [ht.und]
theorem size_G {P : Program} {t e : TypeId} {bytes : Nat} (ht : TyG P t e k bytes) (W : World) : (sizeOf e).run P W = .ok k W := by
  obtain ⟨z, hz, hi⟩ := ht.inf
  obtain ⟨i0, hi0, hz0, hz1, hz2⟩ := info_parts hi
  simp [sizeOf, typeInfo, hi0, hz1]
/-- 'list[:m]' of a row that is owned -/
theorem own_takeG {P : Program} {t e : TypeId} {bytes : Nat} (ht : TyG P t e k bytes) (hf : Wid f k) {w : World} {B : Nat} {v : Value} {xs : List α} (h : OwnG f k e w B v xs) (m : Nat) (hm : m ≤ xs.length) :
    ∃ u, (∀ W : World, (Instr.slice t v none (some (.int .i64 (m : Int))) none).run P W = .ok u W) ∧ OwnG f k e w B u (xs.take m) ∧ u.ownBlock = v.ownBlock := by
  have hl : (xs.take m).length = m := by rw [List.length_take]; omega
  rcases ownG_cases hf h with ⟨rfl, rfl⟩ | ⟨g, cap, cur, rfl, hB, hg, hc, hcm, hh, hs, htk, _⟩
  · have h0 : m = 0 := by simpa using hm
    subst h0
    refine ⟨.slice none 0 0, fun W => ?_, ownG_nil w B e, rfl⟩
    rw [run_slice_h W t _ _ 0 (by rw [elem_G ht]; exact ht.und) .i64 _ (by omega) (by omega), elem_G ht, size_G ht]
    simp [Result.andThen, sliced]
  · refine ⟨.slice (some ⟨g, 0, none⟩) m cap, fun W => ?_, ⟨by rw [rowC_len hf], Or.inr ⟨g, cap, cur, by rw [hl], hB, hh, by rw [hl]; omega, hcm, hs, ?_⟩⟩, rfl⟩
    · rw [run_slice_h W t _ _ cap (by rw [elem_G ht]; exact ht.und) .i64 _ (by omega) (by omega), elem_G ht, size_G ht]
      by_cases h0 : cap = 0
      · have h1 : m = 0 := by omega
        subst h1
        simp [Result.andThen, sliced, h0]
      · simp [Result.andThen, sliced, h0, Addr.add]
    · rw [hl, ← rowC_take hf xs m hm, ← htk, List.take_take, Nat.min_eq_left (Nat.mul_le_mul_right k hm)]
/-- 'list[m:]' of a row that is owned -/
theorem rd_fromG {P : Program} {t e : TypeId} {bytes : Nat} (ht : TyG P t e k bytes) (hf : Wid f k) {w : World} {B : Nat} {v : Value} {xs : List α} (h : OwnG f k e w B v xs) (m : Nat) (hm : m ≤ xs.length) :
    ∃ u, (∀ W : World, (Instr.slice t v (some (.int .i64 (m : Int))) none none).run P W = .ok u W) ∧ RdG f k w u (xs.drop m) := by
  have hl : (xs.drop m).length = xs.length - m := List.length_drop
  rcases ownG_cases hf h with ⟨rfl, rfl⟩ | ⟨g, cap, cur, rfl, hB, hg, hc, hcm, hh, hs, htk, hcs⟩
  · have h0 : m = 0 := by simpa using hm
    subst h0
    refine ⟨.slice none 0 0, fun W => ?_, ⟨none, 0, rfl, Nat.le_refl _, fun h => absurd rfl h⟩⟩
    rw [run_slice_l W t _ 0 0 (by rw [elem_G ht]; exact ht.und) .i64 _ (by omega) (by omega), elem_G ht, size_G ht]
    simp [Result.andThen, sliced]
  · by_cases h0 : cap = m
    · refine ⟨.slice (some ⟨g, 0, none⟩) (xs.length - m) (cap - m), fun W => ?_, ⟨_, cap - m, by rw [hl], by rw [hl]; omega, fun hne => ?_⟩⟩
      · rw [run_slice_l W t _ xs.length cap (by rw [elem_G ht]; exact ht.und) .i64 _ (by omega) (by omega), elem_G ht, size_G ht]
        simp [Result.andThen, sliced, h0]
      · exact absurd (List.eq_nil_of_length_eq_zero (by omega)) hne
    · refine ⟨.slice (some ⟨g, m * k, none⟩) (xs.length - m) (cap - m), fun W => ?_, ?_⟩
      · rw [run_slice_l W t _ xs.length cap (by rw [elem_G ht]; exact ht.und) .i64 _ (by omega) (by omega), elem_G ht, size_G ht]
        simp [Result.andThen, sliced, h0, Addr.add]
        try omega
      · have h9 := rdG_drop (rdG_owns hf h) m (cap - m) hm (by omega)
        rwa [Nat.zero_add] at h9
end
end Go.Proofs.YtfoncmeplofedaqGreatDoor

namespace Go.Proofs.YtfoncmeplofedaqGreatDoor
open Go.RowKit
abbrev Bl := Int × ByteArray
abbrev bl0 : Bl := (0, ByteArray.empty)
abbrev In64 (d : Int) : Prop := -9223372036854775808 ≤ d ∧ d ≤ 9223372036854775807
def blC (l : List Bl) : List Value := l.flatMap fun p => [.int .i64 p.1, .string p.2]
theorem blC_nil : blC [] = [] := rfl
theorem blC_cons (p : Bl) (l : List Bl) : blC (p :: l) = .int .i64 p.1 :: .string p.2 :: blC l := rfl
theorem blC_append (l m : List Bl) : blC (l ++ m) = blC l ++ blC m := by unfold blC; rw [List.flatMap_append]
theorem blC_len (l : List Bl) : (blC l).length = l.length * 2 := by
  induction l with
  | nil => rfl
  | cons p t ih => rw [blC_cons, List.length_cons, List.length_cons, ih, List.length_cons]; omega
theorem blC_get : ∀ (l : List Bl) (i : Nat), i < l.length → (blC l)[i * 2]? = some (.int .i64 (l.getD i bl0).1) ∧ (blC l)[i * 2 + 1]? = some (.string (l.getD i bl0).2)
  | p :: t, 0, _ => ⟨rfl, rfl⟩
  | p :: t, i + 1, h => by
    obtain ⟨h1, h2⟩ := blC_get t i (by simpa using h)
    rw [blC_cons, show (i + 1) * 2 = i * 2 + 1 + 1 by omega]
    exact ⟨h1, h2⟩
theorem blC_set : ∀ (l : List Bl) (i : Nat) (p : Bl), i < l.length → ((blC l).set (i * 2) (.int .i64 p.1)).set (i * 2 + 1) (.string p.2) = blC (l.set i p)
  | q :: t, 0, p, _ => rfl
  | q :: t, i + 1, p, h => by
    have e := blC_set t i p (by simpa using h)
    rw [blC_cons, show (i + 1) * 2 = i * 2 + 1 + 1 by omega, List.set_cons_succ, List.set_cons_succ, List.set_cons_succ, List.set_cons_succ, e, List.set_cons_succ, blC_cons]
theorem blC_inj {l m : List Bl} (h : blC l = blC m) : l = m := by
  induction l generalizing m with
  | nil => cases m with
    | nil => rfl
    | cons p t => cases h
  | cons p t ih => cases m with
    | nil => cases h
    | cons q r =>
      rw [blC_cons, blC_cons] at h
      simp only [List.cons.injEq, Value.int.injEq, true_and, Value.string.injEq] at h
      obtain ⟨h1, h2, h3⟩ := h
      rw [ih h3, Prod.ext h1 h2]
/-- a slice of blobs that can be read -/
def RdB (w : World) (v : Value) (l : List Bl) : Prop :=
  ∃ ao cap, v = .slice ao l.length cap ∧ l.length ≤ cap ∧ (l ≠ [] → ∃ b off, ao = some ⟨b, off, none⟩ ∧ b < w.heap.size ∧ ∀ j, j < l.length → w.cell? ⟨b, off + j * 2, none⟩ = some (.int .i64 (l.getD j bl0).1) ∧ w.cell? ⟨b, off + j * 2 + 1, none⟩ = some (.string (l.getD j bl0).2))
theorem rdB_below {w w' : World} {v : Value} {l : List Bl} (h : RdB w v l) (hb : Below w.heap.size w w') : RdB w' v l := by
  obtain ⟨ao, cap, hv, hcap, hx⟩ := h
  refine ⟨ao, cap, hv, hcap, fun hne => ?_⟩
  obtain ⟨b, off, ha, hlt, hc⟩ := hx hne
  exact ⟨b, off, ha, Nat.lt_of_lt_of_le hlt hb.size, fun j hj => ⟨(hb.cell (p := ⟨b, off + j * 2, none⟩) hlt).trans (hc j hj).1, (hb.cell (p := ⟨b, off + j * 2 + 1, none⟩) hlt).trans (hc j hj).2⟩⟩
theorem rdB_owns {w : World} {base : Nat} {e : TypeId} {v : Value} {l : List Bl} (h : w.ownsRow base e 2 v l.length (blC l)) : RdB w v l := by
  rcases h.2 with ⟨rfl, h0⟩ | ⟨g, cap, cur, rfl, hg, hh, hn, hm, hs, ht⟩
  · obtain rfl : l = [] := List.eq_nil_of_length_eq_zero h0
    exact ⟨none, 0, rfl, Nat.le_refl _, fun h => absurd rfl h⟩
  · refine ⟨_, cap, rfl, hn, fun _ => ⟨g, 0, rfl, (Array.getElem?_eq_some_iff.1 hh).1, fun j hj => ?_⟩⟩
    obtain ⟨h1, h2⟩ := blC_get l j hj
    rw [Nat.zero_add, ← h1, ← h2]
    have hl := blC_len l
    exact ⟨h.cellAt (j * 2) (by omega), h.cellAt (j * 2 + 1) (by omega)⟩
/-- the walk's view of it -/
theorem rdB_cases {w : World} {v : Value} {l : List Bl} (h : RdB w v l) :
    (l = [] ∧ ∃ ao cap, v = .slice ao 0 cap) ∨ (0 < l.length ∧ ∃ b off cap, v = .slice (some ⟨b, off, none⟩) l.length cap ∧ l.length ≤ cap ∧ b < w.heap.size ∧ ∀ j, j < l.length → w.cell? ⟨b, off + j * 2, none⟩ = some (.int .i64 (l.getD j bl0).1) ∧ w.cell? ⟨b, off + j * 2 + 1, none⟩ = some (.string (l.getD j bl0).2)) := by
  obtain ⟨ao, cap, hv, hcap, hx⟩ := h
  by_cases h0 : l = []
  · subst h0
    exact Or.inl ⟨rfl, ao, cap, hv⟩
  · obtain ⟨b, off, rfl, h2, h3⟩ := hx h0
    exact Or.inr ⟨List.length_pos_iff.2 h0, b, off, cap, hv, hcap, h2, h3⟩
theorem rdB_shape {w : World} {v : Value} {l : List Bl} (h : RdB w v l) : ∃ ao cap, v = .slice ao l.length cap := by
  obtain ⟨ao, cap, hv, _⟩ := h
  exact ⟨ao, cap, hv⟩
end Go.Proofs.YtfoncmeplofedaqGreatDoor

namespace Go.Proofs.YtfoncmeplofedaqGreatDoor
open Go.RowKit
set_option linter.unusedVariables false
section
variable {α : Type} {f : α → List Value} {k : Nat}
/-- the type's facts with its zero -/
structure TyZ (P : Program) (t e : TypeId) (f : α → List Value) (k bytes : Nat) (z0 : α) (z : Value) : Prop where
  und : P.underlying t = some (.slice e)
  inf : (P.info? e).map (fun i => (i.zero, i.size, i.bytes)) = some (some z, k, bytes)
  small : bytes ≤ 4096
  zero : z.cells = (f z0).toArray
theorem TyZ.ty {P : Program} {t e : TypeId} {bytes : Nat} {z0 : α} {z : Value} (ht : TyZ P t e f k bytes z0 z) (hf : Wid f k) : TyG P t e k bytes :=
  ⟨ht.und, ⟨z, by rw [ht.zero, List.size_toArray, hf.len], ht.inf⟩, ht.small⟩
theorem rowC_replicate_get (hf : Wid f k) (z0 : α) (n i : Nat) (h : i < n * k) : (rowC f (List.replicate n z0))[i]? = (f z0)[i % k]? := by
  have hd := Nat.div_add_mod i k
  have hm := Nat.mod_lt i hf.pos
  have hi : i / k < n := Nat.div_lt_of_lt_mul (by rw [Nat.mul_comm]; exact h)
  have hg := rowC_get hf (List.replicate n z0) (i / k) (by rw [List.length_replicate]; exact hi) (i % k) hm
  rw [show i / k * k + i % k = i by rw [Nat.mul_comm]; exact hd, List.getElem_replicate] at hg
  exact hg
/-- a new row's cells are zeros -/
theorem zeros_G (hf : Wid f k) {z0 : α} {z : Value} (hz : z.cells = (f z0).toArray) (n : Nat) : (Builtin.zeroCells z.cells n).toList = rowC f (List.replicate n z0) := by
  have hs : z.cells.size = k := by rw [hz, List.size_toArray, hf.len]
  apply List.ext_getElem?
  intro i
  unfold Builtin.zeroCells
  rw [Array.getElem?_toList, Array.getElem?_map, hs]
  by_cases h : i < n * k
  · have hr : (Array.range (n * k))[i]? = some i := by rw [Array.getElem?_range, if_pos h]
    rw [hr, rowC_replicate_get hf z0 n i h, Option.map_some]
    have hm := Nat.mod_lt i hf.pos
    rw [getElem!_pos _ (i % k) (by rw [hs]; exact hm)]
    have e : z.cells[i % k]? = (f z0)[i % k]? := by rw [hz, List.getElem?_toArray]
    rw [← e, Array.getElem?_eq_getElem (by rw [hs]; exact hm)]
  · have hr : (Array.range (n * k))[i]? = none := by rw [Array.getElem?_range, if_neg h]
    rw [hr, Option.map_none, List.getElem?_eq_none (by rw [rowC_len hf, List.length_replicate]; omega)]
theorem made_G (hf : Wid f k) {z0 : α} {z : Value} (hz : z.cells = (f z0).toArray) (n : Nat) : (madeCells z.cells (n * k)).toList = rowC f (List.replicate n z0) := by
  have hs : z.cells.size = k := by rw [hz, List.size_toArray, hf.len]
  have e := zeros_G hf hz n
  rw [← e]
  unfold Builtin.zeroCells madeCells
  rw [hs]
  try rfl
/-- a row that fills its block -/
theorem heap_of_G {w : World} {B g n : Nat} {e : TypeId} {L : List α} (hf : Wid f k) (h : w.ownsRow B e k (.slice (some ⟨g, 0, none⟩) n n) n (rowC f L)) : w.heap[g]? = some (.cells (rowC f L).toArray e (0, 0)) ∧ B ≤ g := by
  rcases h.2 with ⟨h0, _⟩ | ⟨g', cap, cur, hv, hg, hh, hn, hm, hs, ht⟩
  · cases h0
  · simp only [Value.slice.injEq, Option.some.injEq, Addr.mk.injEq] at hv
    obtain ⟨⟨rfl, _, _⟩, _, rfl⟩ := hv
    have e : cur.toList = rowC f L := by rw [← ht, List.take_of_length_le (by rw [Array.length_toList]; omega)]
    exact ⟨by rw [hh, ← e], hg⟩
theorem owns_of_G {w : World} {B g n cap : Nat} {e : TypeId} {L : List α} (hf : Wid f k) (hg : B ≤ g) (hn : n ≤ cap) (hc : cap ≤ 16777216) (hL : L.length = cap) (h : w.heap[g]? = some (.cells (rowC f L).toArray e (0, 0))) : OwnG f k e w B (.slice (some ⟨g, 0, none⟩) n cap) (L.take n) := by
  have hl : (L.take n).length = n := by rw [List.length_take]; omega
  refine ⟨by rw [rowC_len hf], Or.inr ⟨g, cap, _, by rw [hl], hg, h, by rw [hl]; exact hn, by unfold maxLen; omega, by rw [List.size_toArray, rowC_len hf, hL], ?_⟩⟩
  rw [hl]
  exact rowC_take hf L n (by omega)
/-- 'list[m:]' of a row that can be read -/
theorem rd_fromR {P : Program} {t e : TypeId} {bytes : Nat} (ht : TyG P t e k bytes) {w : World} {v : Value} {xs : List α} (h : RdG f k w v xs) (m : Nat) (hm : m ≤ xs.length) (hx : xs.length ≤ 16777216) :
    ∃ u, (∀ W : World, (Instr.slice t v (some (.int .i64 (m : Int))) none none).run P W = .ok u W) ∧ RdG f k w u (xs.drop m) := by
  have hl : (xs.drop m).length = xs.length - m := List.length_drop
  obtain ⟨ao, cap, rfl, hcap, hx9⟩ := h
  refine ⟨sliced ao m xs.length cap k, fun W => ?_, ?_⟩
  · rw [run_slice_l W t _ xs.length cap (by rw [elem_G ht]; exact ht.und) .i64 _ (by omega) (by omega), elem_G ht, size_G ht]
    simp [Result.andThen]
  · unfold sliced
    by_cases h0 : cap = m
    · rw [if_pos h0]
      have h1 : xs.length = m := by omega
      refine ⟨ao, cap - m, by rw [hl], by omega, fun hne => absurd (List.eq_nil_of_length_eq_zero (by omega)) hne⟩
    · rw [if_neg h0]
      cases ao with
      | none => 
        refine ⟨none, cap - m, by rw [hl]; rfl, by omega, fun hne => ?_⟩
        obtain ⟨b, off, ha, _⟩ := hx9 (fun e0 => hne (by rw [e0]; simp))
        cases ha
      | some ad =>
        by_cases hn0 : xs = []
        · subst hn0
          refine ⟨_, cap - m, by rw [hl], by simp, fun hne => absurd (by simp) hne⟩
        · obtain ⟨b, off, ha, hlt, hc⟩ := hx9 hn0
          obtain rfl := Option.some.inj ha
          have h9 := rdG_drop (f := f) (k := k) (w := w) (b := b) (off := off) (n := xs.length) (cap := cap) (l := xs) ⟨_, cap, rfl, hcap, fun _ => ⟨b, off, rfl, hlt, hc⟩⟩ m (cap - m) hm (by omega)
          simp only [Option.map_some, Addr.add_lit]
          exact h9
/-- 'list[:m]' of a row that can be read -/
theorem rd_toR {P : Program} {t e : TypeId} {bytes : Nat} (ht : TyG P t e k bytes) {w : World} {v : Value} {xs : List α} (h : RdG f k w v xs) (m : Nat) (hm : m ≤ xs.length) (hx : xs.length ≤ 16777216) :
    ∃ u, (∀ W : World, (Instr.slice t v none (some (.int .i64 (m : Int))) none).run P W = .ok u W) ∧ RdG f k w u (xs.take m) := by
  have h0 := h
  obtain ⟨ao, cap, rfl, hcap, hx9⟩ := h
  have h1 := rdG_take h0 m hm
  refine ⟨.slice ao m cap, fun W => ?_, h1⟩
  rw [run_slice_h W t _ _ cap (by rw [elem_G ht]; exact ht.und) .i64 _ (by omega) (by omega), elem_G ht, size_G ht]
  by_cases hc0 : cap = 0
  · have : m = 0 := by omega
    subst this
    simp [Result.andThen, sliced, hc0]
  · cases ao with
    | none => simp [Result.andThen, sliced, hc0]
    | some ad => 
      obtain ⟨b, o, p⟩ := ad
      cases p with
      | none => simp [Result.andThen, sliced, hc0, Addr.add]
      | some _ => simp [Result.andThen, sliced, hc0, Addr.add]
/-- append of a row under two names of its type -/
theorem append_two {P : Program} {t t2 e : TypeId} {bytes : Nat} (ht : TyG P t e k bytes) (ht2 : TyG P t2 e k bytes) (w : World) (ty : TypeId) (ao bo : Option Addr) (n c m d : Nat) : (Builtin.append_ #[t, t2] ty #[.slice ao n c, .slice bo m d]).run P w = (Builtin.append_ #[t, t] ty #[.slice ao n c, .slice bo m d]).run P w := by
  obtain ⟨z, hz, hi⟩ := ht.inf
  obtain ⟨i0, hi0, hz0, hz1, hz2⟩ := info_parts hi
  simp [Builtin.append_, run_underlying ht.und, run_underlying ht2.und, sizeOf, typeInfo, hi0, hz1]
/-- 'append(s[:m], make(S, z)...)' that goes behind the room of a row that fills it -/
theorem append_zerosG {P : Program} {t e tn : TypeId} {bytes : Nat} {z0 : α} {z : Value} (ht : TyZ P t e f k bytes z0 z) (hf : Wid f k) (htn : P.underlying tn = some (.int .i64)) (w : World) (ty : TypeId) (g n m q : Nat) (l : List α) (hl : l.length = n) (hw : w.heap[g]? = some (.cells (rowC f l).toArray e (0, 0))) (hm : m ≤ n) (hq : m + q = n + 1) (hn : n ≤ 1048576) :
    ∃ C w' M, n + 1 ≤ C ∧ (Builtin.append_ #[t, tn] ty #[.slice (some ⟨g, 0, none⟩) m n, .int .i64 (q : Int)]).run P w = .ok (.slice (some ⟨w.heap.size, 0, none⟩) (n + 1) C) w' ∧ C ≤ maxLen ∧ M.length = C ∧ M.take m = l.take m ∧ w'.heap[w.heap.size]? = some (.cells (rowC f M).toArray e (0, 0)) ∧ Below w.heap.size w w' ∧ w'.heap.size = w.heap.size + 1 := by
  obtain ⟨i0, hi, hz0, hz1, hz2⟩ := info_parts ht.inf
  have hkp := hf.pos
  have hby := ht.small
  have hge := grownCap_ge w (n + 1) n e
  have hcm := grownCap_le_maxLen w (n + 1) n e (by unfold maxLen; omega)
  have hzs : z.cells.size = k := by rw [ht.zero, List.size_toArray, hf.len]
  have hcells : ∀ j u, (rowC f (l.take m))[j]? = some u → w.cell? ((⟨g, 0, none⟩ : Addr).add j) = some u := fun j u hu => by
    rw [Addr.add_lit, Nat.zero_add, cell_of_row w g j _ _ (0, 0) hw]
    rw [← rowC_take hf l m (by omega)] at hu
    have hj := (List.getElem?_eq_some_iff.1 hu).1
    rw [List.length_take] at hj
    rw [List.getElem?_take_of_lt (by omega)] at hu
    rw [List.getElem?_toArray]
    exact hu
  have hfc := run_firstCells_some (P := P) w.drew i0.size m ⟨g, 0, none⟩ m n (rowC f (l.take m)) (by rw [rowC_len hf, List.length_take, hz1]; rw [Nat.min_eq_left (by omega)]) hcells
  have hwz : IntKind.i64.wrap (q : Int) = (q : Int) := IntWalk.i64_in _ ⟨by omega, by omega⟩
  have hqpos : q ≠ 0 := by omega
  have h1 : ¬ ((q : Int) < 0) := by omega
  have hqb : (q : Int) * (bytes : Int) ≤ 1048577 * 4096 := by
    rw [← Int.natCast_mul]
    have := Nat.mul_le_mul (show q ≤ 1048577 by omega) hby
    omega
  have h2 : ¬ (281474976710656 < (q : Int) * (bytes : Int)) := by omega
  have h3 : ¬ (m + q ≤ n) := by omega
  have h4' : ¬ (9223372036854775807 < (m : Int) + (q : Int)) := by omega
  have h5 : ¬ (281474976710656 < Builtin.nextslicecap (m + q) n * bytes) := by
    have h9 := nextslicecap_le (need := m + q) (old := n) (by omega)
    have h8 := Nat.mul_le_mul (show Builtin.nextslicecap (m + q) n ≤ 4 * 1048577 + 1024 by omega) hby
    omega
  have h6 : ¬ (q * k = 0) := Nat.mul_ne_zero hqpos (by omega)
  refine ⟨grownCap w (n + 1) n e, w.drew.alloc (.cells ((rowC f (l.take m)).toArray ++ Builtin.zeroCells z.cells q ++ Builtin.zeroCells z.cells (grownCap w (n + 1) n e - (n + 1))) e), l.take m ++ List.replicate q z0 ++ List.replicate (grownCap w (n + 1) n e - (n + 1)) z0, hge, ?_, hcm, by simp only [List.length_append, List.length_take, List.length_replicate]; omega, ?_, ?_, (Below.refl _ w).drew.alloc (Nat.le_refl _) _, by rw [World.size_alloc]; rfl⟩
  · rw [← hq]
    rw [hz1] at hfc
    simp [Builtin.append_, run_underlying ht.und, run_underlying htn, sizeOf, typeInfo, zeroValue, hi, hz0, hz1, hz2, asInt, asIntOf, hwz, h1, h2, h3, h4', h5, h6, hfc, Question.forced, newRow, grownCap]
  · rw [List.append_assoc, List.take_append_of_le_length (by rw [List.length_take]; omega), List.take_of_length_le (by rw [List.length_take]; omega)]
  · have e9 := heap_alloc_new w.drew (.cells ((rowC f (l.take m)).toArray ++ Builtin.zeroCells z.cells q ++ Builtin.zeroCells z.cells (grownCap w (n + 1) n e - (n + 1))) e)
    refine e9.trans ?_
    have e2 : (rowC f (l.take m)).toArray ++ Builtin.zeroCells z.cells q ++ Builtin.zeroCells z.cells (grownCap w (n + 1) n e - (n + 1)) = (rowC f (l.take m ++ List.replicate q z0 ++ List.replicate (grownCap w (n + 1) n e - (n + 1)) z0)).toArray := by
      apply Array.toList_inj.1
      rw [Array.toList_append, Array.toList_append, zeros_G hf ht.zero, zeros_G hf ht.zero, rowC_append, rowC_append]
    rw [e2]
/-- 'copy' of structs into a row -/
theorem copy_G {P : Program} {t e : TypeId} {bytes : Nat} (ht : TyG P t e k bytes) (hf : Wid f k) (w : World) (sT ty : TypeId) (g m dLen dCap : Nat) (a : Addr) (sLen sCap : Nat) (M ys : List α) (hw : w.heap[g]? = some (.cells (rowC f M).toArray e (0, 0))) (hn : ys.length = Nat.min sLen dLen) (hsrc : ∀ j u, (rowC f ys)[j]? = some u → w.cell? (a.add j) = some u) (hfit : m + ys.length ≤ M.length) :
    (Builtin.copy_ #[t, sT] ty #[.slice (some ⟨g, m * k, none⟩) dLen dCap, .slice (some a) sLen sCap]).run P w =
      .ok (goInt ys.length) (w.setRow g (rowC f (M.take m ++ ys ++ M.drop (m + ys.length))).toArray) := by
  obtain ⟨z, hz, hi⟩ := ht.inf
  obtain ⟨i0, hi0, hz0, hz1, hz2⟩ := info_parts hi
  have hlen : (rowC f ys).length = ys.length * k := rowC_len hf ys
  have hle : m * k + ys.length * k ≤ M.length * k := by rw [← Nat.add_mul]; exact Nat.mul_le_mul_right k hfit
  have hl := run_loadCells_list (P := P) w a (rowC f ys) hsrc
  have hst := run_storeCells_at P g (m * k) e (rowC f ys) 0 _ w hw (by rw [List.size_toArray, hlen, rowC_len hf, Nat.add_zero]; omega) (rowC_one hf _)
  have e9 : List.take (m * k + 0) (rowC f M).toArray.toList ++ rowC f ys ++ List.drop (m * k + 0 + (rowC f ys).length) (rowC f M).toArray.toList = rowC f (M.take m ++ ys ++ M.drop (m + ys.length)) := by
    rw [rowC_append, rowC_append, List.toList_toArray, Nat.add_zero, rowC_take hf M m (by omega), hlen, ← Nat.add_mul, rowC_drop hf M (m + ys.length) hfit]
  rw [e9] at hst
  have hcl : (rowC f ys).length = Nat.min sLen dLen * k := by rw [hlen, hn]
  rw [hcl] at hl
  simp [Builtin.copy_, run_underlying ht.und, Builtin.lenOf, Builtin.firstCells, sizeOf, typeInfo, hi0, hz1, hl, hst, hn]
/-- 's[m:]', 's[:m]' of a row at its block's head -/
theorem slG_from {P : Program} {t e : TypeId} {bytes : Nat} (ht : TyG P t e k bytes) (W : World) (g n C m : Nat) (hm : m < C) (hmn : m ≤ n) (hn : n ≤ C) (hC : C ≤ maxLen) : (Instr.slice t (.slice (some ⟨g, 0, none⟩) n C) (some (.int .i64 (m : Int))) none none).run P W = .ok (.slice (some ⟨g, m * k, none⟩) (n - m) (C - m)) W := by
  rw [run_slice_l W t _ _ C (by rw [elem_G ht]; exact ht.und) .i64 _ (by omega) (by omega), elem_G ht, size_G ht]
  have e9 : sliced (some (⟨g, 0, none⟩ : Addr)) m n C k = .slice (some ⟨g, m * k, none⟩) (n - m) (C - m) := by
    unfold sliced
    rw [if_neg (by omega)]
    simp only [Option.map_some, Addr.add_lit, Nat.zero_add]
  rw [← e9]
  simp [Result.andThen]
theorem slG_to {P : Program} {t e : TypeId} {bytes : Nat} (ht : TyG P t e k bytes) (W : World) (g n m : Nat) (hm : m ≤ n) (hn : n ≤ 16777216) : (Instr.slice t (.slice (some ⟨g, 0, none⟩) n n) none (some (.int .i64 (m : Int))) none).run P W = .ok (.slice (some ⟨g, 0, none⟩) m n) W := by
  rw [run_slice_h W t _ _ n (by rw [elem_G ht]; exact ht.und) .i64 _ (by omega) (by omega), elem_G ht, size_G ht]
  by_cases hc0 : n = 0
  · simp [Result.andThen, sliced, hc0]
  · simp [Result.andThen, sliced, hc0, Addr.add]
/-- 's[:0]' of a new row -/
theorem slG_zero {P : Program} {t e : TypeId} {bytes : Nat} {z0 : α} {z : Value} (ht : TyZ P t e f k bytes z0 z) (W : World) (g n C : Nat) (hn : n ≤ C) (hC : C ≤ 9223372036854775807) : (Instr.slice t (.slice (some ⟨g, 0, none⟩) n C) none (some (.int .i64 0)) none).run P W = .ok (.slice (some ⟨g, 0, none⟩) 0 C) W := by
  obtain ⟨i0, hi, hz0, hz1, hz2⟩ := info_parts ht.inf
  have hel : P.elem t = e := by unfold Program.elem; rw [ht.und]
  have hsz : (sizeOf e).run P W = .ok k W := by simp [sizeOf, typeInfo, hi, hz1]
  have h9 := run_slice_h (P := P) W t (some ⟨g, 0, none⟩) n C (by rw [hel]; exact ht.und) .i64 0 (by omega) (by omega)
  rw [h9, hel, hsz]
  by_cases hc0 : C = 0
  · simp [Result.andThen, sliced, hc0]
  · simp [Result.andThen, sliced, hc0, Addr.add]
/-- 'clear(s[m:])' of a row that fills its block -/
theorem clear_G {P : Program} {t e : TypeId} {bytes : Nat} {z0 : α} {z : Value} (ht : TyZ P t e f k bytes z0 z) (hf : Wid f k) (w : World) (g n m : Nat) (L : List α) (hL : L.length = n) (hm : m ≤ n) (hn : n ≤ 1048576) (hw : w.heap[g]? = some (.cells (rowC f L).toArray e (0, 0))) :
    ∃ u, (∀ W, (Instr.slice t (.slice (some ⟨g, 0, none⟩) n n) (some (.int .i64 (m : Int))) none none).run P W = .ok u W) ∧ ∃ w' M, (∀ ty, (Builtin.clear_ #[t] ty #[u]).run P w = .ok (.tuple #[]) w') ∧ M.length = n ∧ M.take m = L.take m ∧ w'.heap[g]? = some (.cells (rowC f M).toArray e (0, 0)) ∧ w.grownBy w' (some g) := by
  obtain ⟨i0, hi, hz0, hz1, hz2⟩ := info_parts ht.inf
  have htg := ht.ty hf
  refine ⟨sliced (some ⟨g, 0, none⟩) m n n k, fun W => ?_, ?_⟩
  · rw [run_slice_l W t _ _ n (by rw [elem_G htg]; exact htg.und) .i64 _ (by omega) (by omega), elem_G htg, size_G htg]
    simp [Result.andThen]
  rcases Nat.lt_or_ge m n with h | h
  · have e9 : sliced (some (⟨g, 0, none⟩ : Addr)) m n n k = .slice (some ⟨g, m * k, none⟩) (n - m) (n - m) := by
      unfold sliced
      rw [if_neg (by omega)]
      simp only [Option.map_some, Addr.add_lit, Nat.zero_add]
    rw [e9]
    have hlr : (rowC f (List.replicate (n - m) z0)).length = (n - m) * k := by rw [rowC_len hf, List.length_replicate]
    have hmk : m * k + (n - m) * k = n * k := by rw [← Nat.add_mul]; congr 1; omega
    have hM : List.take (m * k + 0) (rowC f L).toArray.toList ++ rowC f (List.replicate (n - m) z0) ++ List.drop (m * k + 0 + (rowC f (List.replicate (n - m) z0)).length) (rowC f L).toArray.toList = rowC f (L.take m ++ List.replicate (n - m) z0) := by
      rw [rowC_append, List.toList_toArray, Nat.add_zero, rowC_take hf L m (by omega), List.drop_of_length_le (by rw [hlr, rowC_len hf, hL]; omega), List.append_nil]
    have hst := run_storeCells_at P g (m * k) e (rowC f (List.replicate (n - m) z0)) 0 _ w hw (by rw [List.size_toArray, hlr, rowC_len hf, hL, Nat.add_zero]; omega) (rowC_one hf _)
    rw [hM] at hst
    have hzc := zeros_G hf ht.zero (n - m)
    have hZ : (zeroValue e).run P w = .ok z w := by simp [zeroValue, typeInfo, hi, hz0]
    obtain ⟨m', hm'⟩ : ∃ m', n - m = m' + 1 := ⟨n - m - 1, by omega⟩
    refine ⟨w.setRow g (rowC f (L.take m ++ List.replicate (n - m) z0)).toArray, L.take m ++ List.replicate (n - m) z0, fun ty => ?_, by rw [List.length_append, List.length_take, List.length_replicate]; omega, by rw [List.take_append_of_le_length (by rw [List.length_take]; omega), List.take_of_length_le (by rw [List.length_take]; omega)], setRow_heap w g _ _ e _ hw, ?_⟩
    · rw [hm'] at hst hzc ⊢
      simp [Builtin.clear_, run_underlying ht.und, hZ, hzc, hst]
    · exact ⟨rfl, rfl, rfl, by simp [World.setRow], fun q hq hne => setRow_other _ _ _ _ (fun e => hne (by rw [e]))⟩
  · obtain rfl : m = n := by omega
    have e9 : sliced (some (⟨g, 0, none⟩ : Addr)) m m m k = .slice (some ⟨g, 0, none⟩) 0 0 := by
      unfold sliced
      rw [if_pos rfl, Nat.sub_self]
    rw [e9]
    exact ⟨w, L, fun ty => by simp [Builtin.clear_, run_underlying ht.und], hL, rfl, hw, World.grownBy.refl _ _⟩
end
end Go.Proofs.YtfoncmeplofedaqGreatDoor

namespace Go.Proofs.YtfoncmeplofedaqGreatDoor
open Go.RowKit
set_option linter.unusedVariables false
/-- digest, text, stamp, kept, sure -/
abbrev It := Int × ByteArray × Int × Int × Bool
abbrev it0 : It := (0, ByteArray.empty, 0, 0, false)
def itf (p : It) : List Value := [.int .i64 p.1, .string p.2.1, .int .i64 p.2.2.1, .int .i64 p.2.2.2.1, .bool p.2.2.2.2]
theorem itW : Wid itf 5 := ⟨by decide, fun x => rfl, fun x u hu => by
  simp only [itf, List.mem_cons, List.mem_nil_iff, or_false] at hu
  rcases hu with rfl | rfl | rfl | rfl | rfl <;> rfl⟩
theorem getD_it {l : List It} {j : Nat} (h : j < l.length) : l.getD j it0 = l[j] := by simp [List.getD, h]
/-- the five cells of an item -/
theorem it_cells {b off : Nat} {l : List It} {w : World} (h : CellsG itf 5 b off l w) {j : Nat} (hj : j < l.length) : w.cell? ⟨b, off + j * 5, none⟩ = some (.int .i64 (l.getD j it0).1) ∧ w.cell? ⟨b, off + j * 5 + 1, none⟩ = some (.string (l.getD j it0).2.1) ∧ w.cell? ⟨b, off + j * 5 + 2, none⟩ = some (.int .i64 (l.getD j it0).2.2.1) ∧ w.cell? ⟨b, off + j * 5 + 3, none⟩ = some (.int .i64 (l.getD j it0).2.2.2.1) ∧ w.cell? ⟨b, off + j * 5 + 4, none⟩ = some (.bool (l.getD j it0).2.2.2.2) := by
  rw [getD_it hj]
  exact ⟨h j hj 0 _ rfl, h j hj 1 _ rfl, h j hj 2 _ rfl, h j hj 3 _ rfl, h j hj 4 _ rfl⟩
theorem it_cells0 {b : Nat} {l : List It} {w : World} (h : CellsG itf 5 b 0 l w) {j : Nat} (hj : j < l.length) : w.cell? ⟨b, j * 5, none⟩ = some (.int .i64 (l.getD j it0).1) ∧ w.cell? ⟨b, j * 5 + 1, none⟩ = some (.string (l.getD j it0).2.1) ∧ w.cell? ⟨b, j * 5 + 2, none⟩ = some (.int .i64 (l.getD j it0).2.2.1) ∧ w.cell? ⟨b, j * 5 + 3, none⟩ = some (.int .i64 (l.getD j it0).2.2.2.1) ∧ w.cell? ⟨b, j * 5 + 4, none⟩ = some (.bool (l.getD j it0).2.2.2.2) := by
  have h9 := it_cells h hj
  rw [Nat.zero_add] at h9
  exact h9
/-- one cell stored -/
theorem it_set1 (l : List It) (i : Nat) (h : i < l.length) (x : Int) : (rowC itf l).set (i * 5) (.int .i64 x) = rowC itf (l.set i (x, (l.getD i it0).2)) := by
  have e := rowC_set itW l i h 0 (.int .i64 x) (x, l[i].2) (by decide) rfl
  rw [getD_it h]; exact e
theorem it_set2 (l : List It) (i : Nat) (h : i < l.length) (x : ByteArray) : (rowC itf l).set (i * 5 + 1) (.string x) = rowC itf (l.set i ((l.getD i it0).1, x, (l.getD i it0).2.2)) := by
  have e := rowC_set itW l i h 1 (.string x) (l[i].1, x, l[i].2.2) (by decide) rfl
  rw [getD_it h]; exact e
theorem it_set3 (l : List It) (i : Nat) (h : i < l.length) (x : Int) : (rowC itf l).set (i * 5 + 2) (.int .i64 x) = rowC itf (l.set i ((l.getD i it0).1, (l.getD i it0).2.1, x, (l.getD i it0).2.2.2)) := by
  have e := rowC_set itW l i h 2 (.int .i64 x) (l[i].1, l[i].2.1, x, l[i].2.2.2) (by decide) rfl
  rw [getD_it h]; exact e
theorem it_set4 (l : List It) (i : Nat) (h : i < l.length) (x : Int) : (rowC itf l).set (i * 5 + 3) (.int .i64 x) = rowC itf (l.set i ((l.getD i it0).1, (l.getD i it0).2.1, (l.getD i it0).2.2.1, x, (l.getD i it0).2.2.2.2)) := by
  have e := rowC_set itW l i h 3 (.int .i64 x) (l[i].1, l[i].2.1, l[i].2.2.1, x, l[i].2.2.2.2) (by decide) rfl
  rw [getD_it h]; exact e
theorem it_set5 (l : List It) (i : Nat) (h : i < l.length) (x : Bool) : (rowC itf l).set (i * 5 + 4) (.bool x) = rowC itf (l.set i ((l.getD i it0).1, (l.getD i it0).2.1, (l.getD i it0).2.2.1, (l.getD i it0).2.2.2.1, x)) := by
  have e := rowC_set itW l i h 4 (.bool x) (l[i].1, l[i].2.1, l[i].2.2.1, l[i].2.2.2.1, x) (by decide) rfl
  rw [getD_it h]; exact e
theorem it_set (l : List It) (i : Nat) (p : It) (h : i < l.length) : (((((rowC itf l).set (i * 5) (.int .i64 p.1)).set (i * 5 + 1) (.string p.2.1)).set (i * 5 + 2) (.int .i64 p.2.2.1)).set (i * 5 + 3) (.int .i64 p.2.2.2.1)).set (i * 5 + 4) (.bool p.2.2.2.2) = rowC itf (l.set i p) := by
  rw [it_set1 _ _ h, it_set2 _ _ (by simpa using h), it_set3 _ _ (by simpa using h), it_set4 _ _ (by simpa using h), it_set5 _ _ (by simpa using h)]
  simp only [List.set_set, List.length_set, h, getD_it, List.getElem_set_self]
theorem copied_it {l : List It} {n k : Nat} (h : k < l.length) (hn : k < n) (z : It) : (l.take k ++ List.replicate (n - k) z).set k (l.getD k it0) = l.take (k + 1) ++ List.replicate (n - (k + 1)) z := by
  have e1 : n - k = (n - (k + 1)) + 1 := by omega
  have e2 : (l.take k).length = k := by rw [List.length_take]; omega
  rw [e1, List.replicate_succ, List.set_append_right _ _ (by omega), e2, Nat.sub_self, List.set_cons_zero, List.take_succ_eq_append_getElem h, List.append_assoc]
  simp [List.getD, h]
/-- the texts, the blobs of a row of items -/
abbrev itB (p : It) : Bl := (p.1, p.2.1)
abbrev itBs (l : List It) : List Bl := l.map itB
abbrev itTx (l : List It) : List ByteArray := l.map fun p => p.2.1
theorem itTx_blobs (l : List It) : (itBs l).map Prod.snd = itTx l := by simp [itBs, itTx]
theorem itTx_get {l : List It} {k : Nat} (h : k < l.length) : (itTx l).getD k ByteArray.empty = (l.getD k it0).2.1 := by simp [itTx, List.getD, h]
theorem itBs_get {l : List It} {k : Nat} (h : k < l.length) : (itBs l).getD k bl0 = itB (l.getD k it0) := by simp [itBs, List.getD, h]
end Go.Proofs.YtfoncmeplofedaqGreatDoor

namespace Go.Proofs.YtfoncmeplofedaqGreatDoor
open Go.RowKit Go.Maps

/-- does one of the first n clash with one ahead of it? -/
def clashN (xs : List ByteArray) (n : Nat) : Bool := (List.range n).any fun i => (List.range i).any fun k => clashB (xs.getD i ByteArray.empty) (xs.getD k ByteArray.empty)
def clashesB (xs : List ByteArray) : Bool := clashN xs xs.length

theorem clashN_iff (xs : List ByteArray) (n : Nat) : clashN xs n = true ↔ ∃ i k, i < n ∧ k < i ∧ clashB (xs.getD i ByteArray.empty) (xs.getD k ByteArray.empty) = true := by
  unfold clashN
  simp only [List.any_eq_true, List.mem_range]
  constructor
  · rintro ⟨i, hi, k, hk, h⟩; exact ⟨i, k, hi, hk, h⟩
  · rintro ⟨i, k, hi, hk, h⟩; exact ⟨i, hi, k, hk, h⟩
theorem clashN_not {xs : List ByteArray} {n : Nat} (h : ∀ i k, i < n → k < i → clashB (xs.getD i ByteArray.empty) (xs.getD k ByteArray.empty) = false) : clashN xs n = false := by
  cases hc : clashN xs n with
  | false => rfl
  | true =>
    obtain ⟨i, k, hi, hk, hck⟩ := (clashN_iff xs n).1 hc
    rw [h i k hi hk] at hck
    cases hck
theorem clashesB_of {xs : List ByteArray} {i k : Nat} (hi : i < xs.length) (hk : k < i) (h : clashB (xs.getD i ByteArray.empty) (xs.getD k ByteArray.empty) = true) : clashesB xs = true :=
  (clashN_iff xs xs.length).2 ⟨i, k, hi, hk, h⟩

/-- none of the first n clashes with another one of them -/
def Calm (xs : List ByteArray) (n : Nat) : Prop := ∀ i k, i < n → k < n → digest (xs.getD i ByteArray.empty) = digest (xs.getD k ByteArray.empty) → xs.getD i ByteArray.empty = xs.getD k ByteArray.empty
theorem calm_not {xs : List ByteArray} (h : Calm xs xs.length) : clashesB xs = false :=
  clashN_not fun i k hi hk => by
    cases hc : clashB (xs.getD i ByteArray.empty) (xs.getD k ByteArray.empty) with
    | false => rfl
    | true =>
      obtain ⟨h1, h2⟩ := (clashB_iff _ _).1 hc
      exact absurd (h i k hi (by omega) h2) h1
theorem calm_step {xs : List ByteArray} {n : Nat} (h : Calm xs n) (hn : ∀ k, k < n → digest (xs.getD k ByteArray.empty) = digest (xs.getD n ByteArray.empty) → xs.getD k ByteArray.empty = xs.getD n ByteArray.empty) : Calm xs (n + 1) := by
  intro i k hi hk he
  by_cases h1 : i = n
  · subst h1
    by_cases h2 : k = i
    · subst h2; rfl
    · exact (hn k (by omega) he.symm).symm
  · by_cases h2 : k = n
    · subst h2; exact hn i (by omega) he
    · exact h i k (by omega) (by omega) he

/-- what the map holds: of each digest among the first n the place of a text of that digest -/
def Firsts (D : DataW Unit) (xs : List ByteArray) (n : Nat) : Prop :=
  ∀ d : Int, (has D (.int .i64 d) = true → ∃ j, j < n ∧ digest (xs.getD j ByteArray.empty) = d ∧ D.atKey (.int .i64 d) (.lit (.int .i64 0)) = .lit (.int .i64 (j : Int))) ∧
    (has D (.int .i64 d) = false → ∀ j, j < n → digest (xs.getD j ByteArray.empty) ≠ d)

theorem keyL {d : Int} : WideAt.IsKeyLit (.int .i64 d) := by first | trivial | simp [WideAt.IsKeyLit]
theorem ret_bool {a b : Bool} (h : a = b) : Ending.returned (.bool a) = .returned (.bool b) := by rw [h]
theorem firsts_start (xs : List ByteArray) : Firsts (.map []) xs 0 := fun d => ⟨fun h => by simp [has] at h, fun _ j hj => by omega⟩
theorem firsts_known {D : DataW Unit} {xs : List ByteArray} {n : Nat} (h : Firsts D xs n) (hk : has D (.int .i64 (digest (xs.getD n ByteArray.empty))) = true) : Firsts D xs (n + 1) := fun d => by
  refine ⟨fun hd => ?_, fun hd j hj => ?_⟩
  · obtain ⟨j, h1, h2, h3⟩ := (h d).1 hd
    exact ⟨j, by omega, h2, h3⟩
  · by_cases e : j = n
    · subst e
      intro e2
      rw [e2, hd] at hk
      cases hk
    · exact (h d).2 hd j (by omega)
theorem firsts_new {D : DataW Unit} {xs : List ByteArray} {n : Nat} (h : Firsts D xs n) (hm : IsMap D) : Firsts (D.put (.int .i64 (digest (xs.getD n ByteArray.empty))) (.lit (.int .i64 (n : Int)))) xs (n + 1) := fun d => by
  by_cases e : d = digest (xs.getD n ByteArray.empty)
  · subst e
    refine ⟨fun _ => ⟨n, by omega, rfl, ?_⟩, fun hd => ?_⟩
    · exact atKey_put_same hm keyL _ _
    · rw [has_put_same hm keyL] at hd
      cases hd
  · have hne : (Lit.int .i64 d) ≠ Lit.int .i64 (digest (xs.getD n ByteArray.empty)) := fun h2 => e (by injection h2)
    rw [has_put_other hne, atKey_put_other hne]
    refine ⟨fun hd => ?_, fun hd j hj => ?_⟩
    · obtain ⟨j, h1, h2, h3⟩ := (h d).1 hd
      exact ⟨j, by omega, h2, h3⟩
    · by_cases e3 : j = n
      · subst e3; exact fun h4 => e h4.symm
      · exact (h d).2 hd j (by omega)

theorem getD_size {xs : List ByteArray} {B : Nat} (hs : ∀ s ∈ xs, s.size ≤ B) (k : Nat) : (xs.getD k ByteArray.empty).size ≤ B := by
  by_cases hk : k < xs.length
  · have e : xs.getD k ByteArray.empty = xs[k] := by simp [List.getD, hk]
    rw [e]; exact hs _ (List.getElem_mem hk)
  · have e : xs.getD k ByteArray.empty = ByteArray.empty := by rw [List.getD, List.getElem?_eq_none (Nat.le_of_not_lt hk)]; rfl
    rw [e]; exact Nat.zero_le _



end Go.Proofs.YtfoncmeplofedaqGreatDoor

namespace Go.Proofs.YtfoncmeplofedaqGreatDoor
/-- a store -/
def Sto (l : List Bl) : Prop := l.length ≤ 300 ∧ (∀ p ∈ l, p.2.size ≤ 2000 ∧ p.1 = digest p.2) ∧ l.Pairwise (fun p q => p.1 < q.1)
def okAt (l : List Bl) (i : Nat) : Bool := decide ((l.getD i bl0).2.size ≤ 2000) && (decide ((l.getD i bl0).1 = digest (l.getD i bl0).2) && (decide (i = 0) || decide ((l.getD (i - 1) bl0).1 < (l.getD i bl0).1)))
def storeB (l : List Bl) : Bool := decide (l.length ≤ 300) && (List.range l.length).all (okAt l)
theorem getD_at {l : List Bl} {i : Nat} (h : i < l.length) : l.getD i bl0 = l[i] := by simp [List.getD, h]
theorem okAt_iff {l : List Bl} {i : Nat} : okAt l i = true ↔ (l.getD i bl0).2.size ≤ 2000 ∧ (l.getD i bl0).1 = digest (l.getD i bl0).2 ∧ (i = 0 ∨ (l.getD (i - 1) bl0).1 < (l.getD i bl0).1) := by
  unfold okAt
  simp only [Bool.and_eq_true, Bool.or_eq_true, decide_eq_true_eq]
theorem rise_of {l : List Bl} (h : ∀ i, 0 < i → i < l.length → (l.getD (i - 1) bl0).1 < (l.getD i bl0).1) : l.Pairwise (fun p q => p.1 < q.1) := by
  refine List.pairwise_iff_getElem.2 fun i j hi hj hij => ?_
  obtain ⟨k, rfl⟩ : ∃ k, j = i + 1 + k := ⟨j - i - 1, by omega⟩
  induction k with
  | zero =>
    have := h (i + 1) (by omega) (by omega)
    rw [Nat.add_sub_cancel, getD_at hi, getD_at (by omega)] at this
    exact this
  | succ k ih =>
    have h1 := ih (by omega) (by omega)
    have h2 := h (i + 1 + (k + 1)) (by omega) hj
    rw [show i + 1 + (k + 1) - 1 = i + 1 + k by omega, getD_at (show i + 1 + k < l.length by omega), getD_at hj] at h2
    omega
theorem storeB_iff {l : List Bl} : storeB l = true ↔ Sto l := by
  unfold storeB Sto
  rw [Bool.and_eq_true, decide_eq_true_eq, List.all_eq_true]
  constructor
  · rintro ⟨h1, h2⟩
    have h3 : ∀ i, i < l.length → okAt l i = true := fun i hi => h2 i (List.mem_range.2 hi)
    refine ⟨h1, fun p hp => ?_, rise_of fun i h0 hi => ?_⟩
    · obtain ⟨i, hi, rfl⟩ := List.getElem_of_mem hp
      have := okAt_iff.1 (h3 i hi)
      rw [getD_at hi] at this
      exact ⟨this.1, this.2.1⟩
    · rcases (okAt_iff.1 (h3 i hi)).2.2 with g | g
      · omega
      · exact g
  · rintro ⟨h1, h2, h3⟩
    refine ⟨h1, fun i hi => ?_⟩
    have hi := List.mem_range.1 hi
    obtain ⟨g1, g2⟩ := h2 l[i] (List.getElem_mem hi)
    refine okAt_iff.2 ⟨by rw [getD_at hi]; exact g1, by rw [getD_at hi]; exact g2, ?_⟩
    by_cases h0 : i = 0
    · exact Or.inl h0
    · right
      have := List.pairwise_iff_getElem.1 h3 (i - 1) i (by omega) hi (by omega)
      rw [getD_at hi, getD_at (show i - 1 < l.length by omega)]
      exact this
theorem storeB_len {l : List Bl} (h : ¬ l.length ≤ 300) : storeB l = false := by unfold storeB; rw [decide_eq_false h, Bool.false_and]
theorem storeB_at {l : List Bl} {i : Nat} (hi : i < l.length) (h : okAt l i = false) : storeB l = false := by
  cases hs : storeB l with
  | false => rfl
  | true =>
    unfold storeB at hs
    rw [Bool.and_eq_true, List.all_eq_true] at hs
    rw [hs.2 i (List.mem_range.2 hi)] at h
    cases h
theorem storeB_all {l : List Bl} (h : l.length ≤ 300) (k : ∀ i, i < l.length → okAt l i = true) : storeB l = true := by
  unfold storeB
  rw [decide_eq_true h, Bool.true_and, List.all_eq_true]
  exact fun i hi => k i (List.mem_range.1 hi)

/-- the blob of a digest -/
def findB (l : List Bl) (d : Int) : Option Bl := l.find? fun p => p.1 == d
theorem findB_some {l : List Bl} {d : Int} {p : Bl} (h : findB l d = some p) : p ∈ l ∧ p.1 = d := ⟨List.mem_of_find?_eq_some h, by have := List.find?_some h; simpa using this⟩
theorem findB_none {l : List Bl} {d : Int} : findB l d = none ↔ ∀ p ∈ l, p.1 ≠ d := by
  unfold findB
  rw [List.find?_eq_none]
  simp
theorem rise_eq {l : List Bl} (h : l.Pairwise (fun p q => p.1 < q.1)) {p q : Bl} (hp : p ∈ l) (hq : q ∈ l) (e : p.1 = q.1) : p = q := by
  obtain ⟨i, hi, rfl⟩ := List.getElem_of_mem hp
  obtain ⟨j, hj, rfl⟩ := List.getElem_of_mem hq
  rcases Nat.lt_trichotomy i j with g | g | g
  · have := List.pairwise_iff_getElem.1 h i j hi hj g; omega
  · subst g; rfl
  · have := List.pairwise_iff_getElem.1 h j i hj hi g; omega
theorem findB_mem {l : List Bl} (h : l.Pairwise (fun p q => p.1 < q.1)) {p : Bl} (hp : p ∈ l) : findB l p.1 = some p := by
  cases hf : findB l p.1 with
  | none => exact absurd rfl (findB_none.1 hf p hp)
  | some q =>
    obtain ⟨h1, h2⟩ := findB_some hf
    rw [rise_eq h h1 hp h2]
/-- in its place -/
def insB (l : List Bl) (p : Bl) : List Bl := (l.filter fun q => decide (q.1 < p.1)) ++ p :: l.filter fun q => decide (p.1 < q.1)
theorem insB_mem {l : List Bl} {p q : Bl} (hn : ∀ x ∈ l, x.1 ≠ p.1) : q ∈ insB l p ↔ q = p ∨ q ∈ l := by
  unfold insB
  rw [List.mem_append, List.mem_cons, List.mem_filter, List.mem_filter, decide_eq_true_eq, decide_eq_true_eq]
  constructor
  · rintro (h | h | h)
    · exact Or.inr h.1
    · exact Or.inl h
    · exact Or.inr h.1
  · rintro (h | h)
    · exact Or.inr (Or.inl h)
    · rcases Int.lt_trichotomy q.1 p.1 with g | g | g
      · exact Or.inl ⟨h, g⟩
      · exact absurd g (hn q h)
      · exact Or.inr (Or.inr ⟨h, g⟩)
theorem insB_rise {l : List Bl} {p : Bl} (h : l.Pairwise (fun p q => p.1 < q.1)) : (insB l p).Pairwise (fun p q => p.1 < q.1) := by
  unfold insB
  refine List.pairwise_append.2 ⟨h.filter _, List.pairwise_cons.2 ⟨fun q hq => ?_, h.filter _⟩, fun a ha b hb => ?_⟩
  · exact of_decide_eq_true (List.mem_filter.1 hq).2
  · have h1 := of_decide_eq_true (List.mem_filter.1 ha).2
    rcases List.mem_cons.1 hb with rfl | hb
    · exact h1
    · have h2 := of_decide_eq_true (List.mem_filter.1 hb).2
      omega
theorem insB_len {l : List Bl} {p : Bl} (hn : ∀ x ∈ l, x.1 ≠ p.1) : (insB l p).length = l.length + 1 := by
  unfold insB
  rw [List.length_append, List.length_cons]
  have : ∀ l : List Bl, (∀ x ∈ l, x.1 ≠ p.1) → (l.filter fun q => decide (q.1 < p.1)).length + (l.filter fun q => decide (p.1 < q.1)).length = l.length := by
    intro l
    induction l with
    | nil => intro _; rfl
    | cons a t ih =>
      intro h
      have := ih fun x hx => h x (by simp [hx])
      have ha := h a (by simp)
      rcases Int.lt_trichotomy a.1 p.1 with g | g | g
      · rw [List.filter_cons_of_pos (by simpa using g), List.filter_cons_of_neg (by simp; omega)]
        simp
        omega
      · exact absurd g ha
      · rw [List.filter_cons_of_neg (by simp; omega), List.filter_cons_of_pos (by simpa using g)]
        simp
        omega
  have := this l hn
  omega
/-- what Put tells -/
def putT (l : List Bl) (s : ByteArray) : List Bl × Int × Int :=
  if storeB l = true then
    (if 2000 < s.size then (l, 0, 4) else
      match findB l (digest s) with
      | some p => if p.2 = s then (l, digest s, 1) else (l, 0, 2)
      | none => if l.length = 300 then (l, 0, 3) else (insB l (digest s, s), digest s, 0))
  else ([], 0, 4)
/-- what Get tells -/
def getT (l : List Bl) (d : Int) : Option ByteArray := if storeB l = true then (findB l d).map (·.2) else none
/-- what Drop tells -/
def dropT (l : List Bl) (ds : List Int) : List Bl := if storeB l = true then l.filter fun p => !(ds.contains p.1) else []
/-- those that are not there, each once -/
def missF (l : List Bl) : List Int → List Int → List Int
  | [], acc => acc
  | d :: r, acc => if (findB l d).isNone && !(acc.contains d) then missF l r (acc ++ [d]) else missF l r acc
/-- what Missing tells -/
def missT (l : List Bl) (ds : List Int) : List Int := if storeB l = true then missF l ds [] else []

theorem getT_digest {l : List Bl} {d : Int} {t : ByteArray} (h : getT l d = some t) : digest t = d := by
  unfold getT at h
  split at h
  · rename_i hs
    obtain ⟨p, hp, rfl⟩ := Option.map_eq_some_iff.1 h
    obtain ⟨h1, h2⟩ := findB_some hp
    rw [← h2, ((storeB_iff.1 hs).2.1 p h1).2]
  · cases h
theorem drop_sto {l : List Bl} {ds : List Int} (h : storeB l = true) : storeB (dropT l ds) = true := by
  unfold dropT
  rw [if_pos h]
  obtain ⟨h1, h2, h3⟩ := storeB_iff.1 h
  exact storeB_iff.2 ⟨Nat.le_trans (List.length_filter_le _ _) h1, fun p hp => h2 p (List.mem_filter.1 hp).1, h3.filter _⟩
theorem drop_none {l : List Bl} {ds : List Int} {d : Int} (h : storeB l = true) (hd : d ∈ ds) : getT (dropT l ds) d = none := by
  unfold getT
  rw [if_pos (drop_sto h)]
  have : findB (dropT l ds) d = none := findB_none.2 fun p hp e => by
    unfold dropT at hp
    rw [if_pos h] at hp
    have := (List.mem_filter.1 hp).2
    rw [e] at this
    simp [hd] at this
  rw [this]
  rfl
theorem drop_find {l : List Bl} {ds : List Int} {d : Int} (h : storeB l = true) (hn : findB l d = none) : findB (dropT l ds) d = none := by
  refine findB_none.2 fun p hp => findB_none.1 hn p ?_
  unfold dropT at hp
  rw [if_pos h] at hp
  exact (List.mem_filter.1 hp).1
/-- what is missing is missing, each once -/
theorem missF_ok {l : List Bl} : ∀ (ds acc : List Int), (∀ d ∈ acc, findB l d = none) → acc.Nodup → (∀ d ∈ missF l ds acc, findB l d = none) ∧ (missF l ds acc).Nodup
  | [], acc, h1, h2 => ⟨h1, h2⟩
  | d :: r, acc, h1, h2 => by
    unfold missF
    by_cases hc : ((findB l d).isNone && !(acc.contains d)) = true
    · rw [if_pos hc]
      rw [Bool.and_eq_true] at hc
      have hd : findB l d = none := by simpa using hc.1
      have hna : d ∉ acc := by simpa using hc.2
      refine missF_ok r _ (fun x hx => ?_) (List.nodup_append.2 ⟨h2, by simp, fun a ha b hb e => ?_⟩)
      · rcases List.mem_append.1 hx with hx | hx
        · exact h1 x hx
        · rw [List.mem_singleton.1 hx]; exact hd
      · rw [List.mem_singleton.1 hb] at e
        rw [e] at ha
        exact hna ha
    · rw [if_neg hc]
      exact missF_ok r acc h1 h2
theorem missF_all {l : List Bl} : ∀ (ds acc : List Int), (∀ d ∈ ds, findB l d = none) → (acc ++ ds).Nodup → missF l ds acc = acc ++ ds
  | [], acc, _, _ => by simp [missF]
  | d :: r, acc, h1, h2 => by
    unfold missF
    have hd : findB l d = none := h1 d (by simp)
    have hna : d ∉ acc := fun h => (List.nodup_append.1 h2).2.2 d h d (by simp) rfl
    rw [if_pos (by simp [hd, hna]), missF_all r _ (fun x hx => h1 x (by simp [hx])) (by simpa using h2)]
    simp
theorem miss_again {l : List Bl} {ds : List Int} (h : storeB l = true) : missT (dropT l ds) (missT l ds) = missT l ds := by
  obtain ⟨h1, h2⟩ := missF_ok (l := l) ds [] (fun d hd => by cases hd) (by simp)
  unfold missT
  rw [if_pos h, if_pos (drop_sto h), missF_all (l := dropT l ds) _ [] (fun d hd => drop_find h (h1 d hd)) (by simpa using h2)]
  rfl
/-- what is put is got, all else as it was -/
theorem put_ok {l : List Bl} {s : ByteArray} (h : storeB l = true) (hk : (putT l s).2.2 = 0 ∨ (putT l s).2.2 = 1) :
    storeB (putT l s).1 = true ∧ (putT l s).2.1 = digest s ∧ getT (putT l s).1 (digest s) = some s ∧ (∀ p ∈ l, getT (putT l s).1 p.1 = some p.2) ∧ ((putT l s).2.2 = 1 → (putT l s).1 = l) ∧ ((putT l s).2.2 = 0 → (putT l s).1.length = l.length + 1) := by
  obtain ⟨h1, h2, h3⟩ := storeB_iff.1 h
  have hget : ∀ (m : List Bl), storeB m = true → ∀ p ∈ m, getT m p.1 = some p.2 := fun m hm p hp => by
    unfold getT
    rw [if_pos hm, findB_mem (storeB_iff.1 hm).2.2 hp]
    rfl
  unfold putT at hk ⊢
  rw [if_pos h] at hk ⊢
  by_cases hb : 2000 < s.size
  · rw [if_pos hb] at hk
    rcases hk with hk | hk <;> cases hk
  rw [if_neg hb] at hk ⊢
  cases hf : findB l (digest s) with
  | some p =>
    rw [hf] at hk
    obtain ⟨p1, p2⟩ := findB_some hf
    by_cases hp : p.2 = s
    · simp only [if_pos hp]
      exact ⟨h, trivial, by rw [← p2, hget l h p p1, hp], fun q hq => hget l h q hq, fun _ => trivial, fun e => absurd e (by omega)⟩
    · simp only [if_neg hp] at hk
      rcases hk with hk | hk <;> cases hk
  | none =>
    rw [hf] at hk
    have hn := findB_none.1 hf
    by_cases h300 : l.length = 300
    · simp only [if_pos h300] at hk
      rcases hk with hk | hk <;> cases hk
    simp only [if_neg h300]
    have hs : storeB (insB l (digest s, s)) = true := storeB_iff.2 ⟨by rw [insB_len hn]; omega, fun q hq => by
      rcases (insB_mem hn).1 hq with rfl | hq
      · exact ⟨by show s.size ≤ 2000; omega, rfl⟩
      · exact h2 q hq, insB_rise h3⟩
    exact ⟨hs, trivial, hget _ hs (digest s, s) ((insB_mem (p := (digest s, s)) hn).2 (Or.inl rfl)), fun q hq => hget _ hs q ((insB_mem (p := (digest s, s)) hn).2 (Or.inr hq)), fun e => absurd e (by omega), fun _ => insB_len (p := (digest s, s)) hn⟩
theorem put_not {l : List Bl} {s : ByteArray} (h : storeB l = true) (hk : (putT l s).2.2 ≠ 0 ∧ (putT l s).2.2 ≠ 1) : (putT l s).1 = l ∧ (putT l s).2.1 = 0 := by
  unfold putT at hk ⊢
  rw [if_pos h] at hk ⊢
  by_cases hb : 2000 < s.size
  · rw [if_pos hb]
    exact ⟨rfl, rfl⟩
  rw [if_neg hb] at hk ⊢
  cases hf : findB l (digest s) with
  | some p =>
    rw [hf] at hk
    by_cases hp : p.2 = s
    · simp only [if_pos hp] at hk
      exact absurd rfl hk.2
    · simp only [if_neg hp]
      exact ⟨trivial, trivial⟩
  | none =>
    rw [hf] at hk
    by_cases h300 : l.length = 300
    · simp only [if_pos h300]
      exact ⟨trivial, trivial⟩
    · simp only [if_neg h300] at hk
      exact absurd rfl hk.1
/-- two stores of one content are alike -/
theorem rise_same : ∀ {l m : List Bl}, l.Pairwise (fun p q => p.1 < q.1) → m.Pairwise (fun p q => p.1 < q.1) → (∀ p, p ∈ l ↔ p ∈ m) → l = m
  | [], [], _, _, _ => rfl
  | [], q :: m, _, _, h => by have := (h q).2 (by simp); cases this
  | p :: l, [], _, _, h => by have := (h p).1 (by simp); cases this
  | p :: l, q :: m, hl, hm, h => by
    obtain ⟨a1, a2⟩ := List.pairwise_cons.1 hl
    obtain ⟨b1, b2⟩ := List.pairwise_cons.1 hm
    have hpq : p = q := by
      rcases List.mem_cons.1 ((h p).1 (by simp)) with e | e
      · exact e
      · rcases List.mem_cons.1 ((h q).2 (by simp)) with e2 | e2
        · exact e2.symm
        · have := b1 p e
          have := a1 q e2
          omega
    subst hpq
    rw [rise_same a2 b2 fun x => ⟨fun hx => ?_, fun hx => ?_⟩]
    · rcases List.mem_cons.1 ((h x).1 (by simp [hx])) with e | e
      · have := a1 x hx
        rw [e] at this
        omega
      · exact e
    · rcases List.mem_cons.1 ((h x).2 (by simp [hx])) with e | e
      · have := b1 x hx
        rw [e] at this
        omega
      · exact e
end Go.Proofs.YtfoncmeplofedaqGreatDoor

namespace Go.Proofs.YtfoncmeplofedaqGreatDoor
open Go.RowKit
set_option linter.unusedVariables false
abbrev itemP (p : It) : Prop := (0 ≤ p.2.2.1 ∧ p.2.2.1 ≤ 100000) ∧ (0 ≤ p.2.2.2.1 ∧ p.2.2.2.1 ≤ p.2.2.1) ∧ (p.2.2.2.2 = true → p.2.2.2.1 = p.2.2.1)
def shelfB (r : Int) (l : List It) : Bool := decide (0 ≤ r ∧ r ≤ 100000) && (storeB (itBs l) && l.all fun p => decide (itemP p))
theorem shelfB_iff {r : Int} {l : List It} : shelfB r l = true ↔ (0 ≤ r ∧ r ≤ 100000) ∧ storeB (itBs l) = true ∧ ∀ p ∈ l, itemP p := by
  unfold shelfB
  rw [Bool.and_eq_true, Bool.and_eq_true, decide_eq_true_eq, List.all_eq_true]
  simp only [decide_eq_true_eq]
theorem shelfB_len {r : Int} {l : List It} (h : shelfB r l = true) : l.length ≤ 300 := by
  have := (storeB_iff.1 (shelfB_iff.1 h).2.1).1
  simpa using this
theorem shelfB_size {r : Int} {l : List It} (h : shelfB r l = true) : ∀ p ∈ l, p.2.1.size ≤ 2000 := fun p hp => ((storeB_iff.1 (shelfB_iff.1 h).2.1).2.1 (itB p) (List.mem_map_of_mem hp)).1
theorem shelfB_at {r : Int} {l : List It} {i : Nat} (hi : i < l.length) (h : ¬ itemP (l.getD i it0)) : shelfB r l = false := by
  cases hb : shelfB r l with
  | false => rfl
  | true =>
    have := (shelfB_iff.1 hb).2.2 l[i] (List.getElem_mem hi)
    rw [getD_it hi] at h
    exact absurd this h
theorem shelfB_all {r : Int} {l : List It} (h1 : 0 ≤ r ∧ r ≤ 100000) (h2 : storeB (itBs l) = true) (h : ∀ i, i < l.length → itemP (l.getD i it0)) : shelfB r l = true := by
  refine shelfB_iff.2 ⟨h1, h2, fun p hp => ?_⟩
  obtain ⟨i, hi, rfl⟩ := List.getElem_of_mem hp
  have := h i hi
  rwa [getD_it hi] at this
/-- all are sure -/
def syncP (p : It) : It := (p.1, p.2.1, p.2.2.1, p.2.2.1, true)
abbrev syncL (l : List It) : List It := l.map syncP
theorem sync_step {l : List It} {k : Nat} (h : k < l.length) : (syncL (l.take k) ++ l.drop k).set k (syncP (l.getD k it0)) = syncL (l.take (k + 1)) ++ l.drop (k + 1) := by
  have e2 : (syncL (l.take k)).length = k := by rw [List.length_map, List.length_take]; omega
  rw [List.drop_eq_getElem_cons h, List.set_append_right _ _ (by omega), e2, Nat.sub_self, List.set_cons_zero, List.take_succ_eq_append_getElem h, show syncL (l.take k ++ [l[k]]) = syncL (l.take k) ++ syncL [l[k]] from List.map_append, List.append_assoc, getD_it h]
  rfl
/-- what outlives a crash -/
def lostP (p : It) : Bool := decide (p.2.2.2.1 = 0) && !p.2.2.2.2
def backP (p : It) : It := (p.1, p.2.1, p.2.2.2.1, p.2.2.2.1, true)
def crashL (l : List It) : List It := (l.filter fun p => !lostP p).map backP
theorem crash_snoc (l : List It) (k : Nat) (h : k < l.length) : crashL (l.take (k + 1)) = crashL (l.take k) ++ (if lostP (l.getD k it0) = true then [] else [backP (l.getD k it0)]) := by
  unfold crashL
  rw [List.take_succ_eq_append_getElem h, List.filter_append, List.map_append, getD_it h]
  congr 1
  cases hl : lostP l[k] <;> simp [hl]
theorem crash_len (l : List It) : (crashL l).length ≤ l.length := by unfold crashL; rw [List.length_map]; exact List.length_filter_le _ _
/-- what a sweep of round r with these marks leaves -/
def stayP (r : Int) (ms : List Int) (p : It) : Bool := decide (r ≤ p.2.2.1) || ms.contains p.1
def sweptL (r : Int) (ms : List Int) (l : List It) : List It := l.filter (stayP r ms)
theorem swept_snoc (r : Int) (ms : List Int) (l : List It) (k : Nat) (h : k < l.length) : sweptL r ms (l.take (k + 1)) = sweptL r ms (l.take k) ++ (if stayP r ms (l.getD k it0) = true then [l.getD k it0] else []) := by
  unfold sweptL
  rw [List.take_succ_eq_append_getElem h, List.filter_append, getD_it h]
  congr 1
  cases hl : stayP r ms l[k] <;> simp [hl]
theorem swept_len (r : Int) (ms : List Int) (l : List It) : (sweptL r ms l).length ≤ l.length := List.length_filter_le _ _
/-- the five answers, a shelf as its round and its items -/
def syncedT (r : Int) (l : List It) : Int × List It := if shelfB r l = true then (r, syncL l) else (0, [])
def crashedT (r : Int) (l : List It) : Int × List It := if shelfB r l = true then (r, crashL l) else (0, [])
def sweptT (r : Int) (l : List It) (round : Int) (ms : List Int) : (Int × List It) × Int :=
  if shelfB r l = true then (if round < r ∨ 100000 < round then ((r, l), -1) else ((round, sweptL round ms l), (l.length : Int) - ((sweptL round ms l).length : Int))) else ((0, []), -1)
def fetchedT (r : Int) (l : List It) (d : Int) : Option ByteArray := if shelfB r l = true then getT (itBs l) d else none
end Go.Proofs.YtfoncmeplofedaqGreatDoor

namespace Go.Proofs.YtfoncmeplofedaqGreatDoor
open Go.RowKit
set_option linter.unusedVariables false
/-- in its place -/
def insI (l : List It) (x : It) : List It := (l.filter fun q => decide (q.1 < x.1)) ++ x :: l.filter fun q => decide (x.1 < q.1)
theorem insI_blobs (l : List It) (x : It) : itBs (insI l x) = insB (itBs l) (itB x) := by
  unfold insI insB itBs
  rw [List.map_append, List.map_cons, List.filter_map, List.filter_map]
  rfl
theorem insI_mem {l : List It} {x q : It} (hn : ∀ p ∈ l, p.1 ≠ x.1) : q ∈ insI l x ↔ q = x ∨ q ∈ l := by
  unfold insI
  rw [List.mem_append, List.mem_cons, List.mem_filter, List.mem_filter, decide_eq_true_eq, decide_eq_true_eq]
  constructor
  · rintro (h | h | h)
    · exact Or.inr h.1
    · exact Or.inl h
    · exact Or.inr h.1
  · rintro (h | h)
    · exact Or.inr (Or.inl h)
    · rcases Int.lt_trichotomy q.1 x.1 with g | g | g
      · exact Or.inl ⟨h, g⟩
      · exact absurd g (hn q h)
      · exact Or.inr (Or.inr ⟨h, g⟩)
theorem insI_len {l : List It} {x : It} (hn : ∀ p ∈ l, p.1 ≠ x.1) : (insI l x).length = l.length + 1 := by
  have h := insB_len (l := itBs l) (p := itB x) (fun q hq => by obtain ⟨p, hp, rfl⟩ := List.mem_map.1 hq; exact hn p hp)
  rw [← insI_blobs, List.length_map, List.length_map] at h
  exact h
theorem insI_at {l : List It} {x : It} {k : Nat} (hr : l.Pairwise (fun p q => p.1 < q.1)) (hn : ∀ p ∈ l, p.1 ≠ x.1) (hk : k ≤ l.length) (h1 : ∀ j, j < k → (l.getD j it0).1 < x.1) (h2 : k < l.length → ¬ (l.getD k it0).1 < x.1) : insI l x = l.take k ++ [x] ++ l.drop k := by
  have e : l = l.take k ++ l.drop k := (List.take_append_drop k l).symm
  have ht : ∀ p ∈ l.take k, p.1 < x.1 := fun p hp => by
    obtain ⟨j, hj, rfl⟩ := List.getElem_of_mem hp
    rw [List.length_take] at hj
    have := h1 j (by omega)
    rw [getD_it (by omega)] at this
    rw [List.getElem_take]
    exact this
  have hd : ∀ p ∈ l.drop k, x.1 < p.1 := fun p hp => by
    obtain ⟨j, hj, rfl⟩ := List.getElem_of_mem hp
    rw [List.length_drop] at hj
    have h3 := h2 (by omega)
    rw [getD_it (by omega)] at h3
    rw [List.getElem_drop]
    have h4 := hn l[k + j] (List.getElem_mem _)
    rcases Nat.eq_zero_or_pos j with h0 | h0
    · subst h0
      simp only [Nat.add_zero] at h4 ⊢
      omega
    · have h5 := List.pairwise_iff_getElem.1 hr k (k + j) (by omega) (by omega) (by omega)
      omega
  unfold insI
  have a1 : l.filter (fun q => decide (q.1 < x.1)) = l.take k := by
    conv => lhs; rw [e]
    rw [List.filter_append, List.filter_eq_self.2 (fun p hp => decide_eq_true (ht p hp)), List.filter_eq_nil_iff.2 (fun p hp => by have := hd p hp; simp; omega), List.append_nil]
  have a2 : l.filter (fun q => decide (x.1 < q.1)) = l.drop k := by
    conv => lhs; rw [e]
    rw [List.filter_append, List.filter_eq_self.2 (fun p hp => decide_eq_true (hd p hp)), List.filter_eq_nil_iff.2 (fun p hp => by have := ht p hp; simp; omega), List.nil_append]
  rw [a1, a2, List.append_assoc]
  rfl
/-- a later stamp -/
def moreP (st : Int) (p : It) : It := (p.1, p.2.1, (if p.2.2.1 < st then st else p.2.2.1), p.2.2.2.1, p.2.2.2.2 && !decide (p.2.2.2.1 < st))
def moreL (d st : Int) (l : List It) : List It := l.map fun p => if p.1 = d then moreP st p else p
theorem moreL_blobs (d st : Int) (l : List It) : itBs (moreL d st l) = itBs l := by
  unfold itBs moreL
  rw [List.map_map]
  apply List.map_congr_left
  intro p _
  show itB (if p.1 = d then moreP st p else p) = itB p
  split <;> rfl
theorem moreL_at {l : List It} {k : Nat} (st : Int) (hr : l.Pairwise (fun p q => p.1 < q.1)) (hk : k < l.length) : moreL (l.getD k it0).1 st l = l.set k (moreP st (l.getD k it0)) := by
  rw [getD_it hk]
  apply List.ext_getElem
  · simp [moreL]
  · intro j h1 h2
    have hj : j < l.length := by simpa [moreL] using h1
    rw [List.getElem_set]
    simp only [moreL, List.getElem_map]
    by_cases e : k = j
    · subst e
      simp
    · rw [if_neg e, if_neg]
      intro e2
      rcases Nat.lt_or_gt_of_ne e with g | g
      · have := List.pairwise_iff_getElem.1 hr k j hk hj g; omega
      · have := List.pairwise_iff_getElem.1 hr j k hj hk g; omega
/-- what is laid on a right shelf, with a right stamp -/
def laidN (l : List It) (t : ByteArray) (st : Int) : List It × Int × Int :=
  if (putT (itBs l) t).2.2 = 0 then (insI l (digest t, t, st, 0, false), digest t, 0)
  else if (putT (itBs l) t).2.2 = 1 then (moreL (digest t) st l, digest t, 1)
  else (l, 0, (putT (itBs l) t).2.2)
def laidT (r : Int) (l : List It) (t : ByteArray) (st : Int) : (Int × List It) × Int × Int :=
  if shelfB r l = true then (if 0 ≤ st ∧ st ≤ 100000 then ((r, (laidN l t st).1), (laidN l t st).2) else ((r, l), 0, 4)) else ((0, []), 0, 4)
/-- the codes of a right store -/
theorem put_codes {l : List Bl} {s : ByteArray} (h : storeB l = true) :
    ((putT l s).2.2 = 0 ∧ s.size ≤ 2000 ∧ findB l (digest s) = none ∧ l.length ≠ 300 ∧ putT l s = (insB l (digest s, s), digest s, 0)) ∨
    ((putT l s).2.2 = 1 ∧ s.size ≤ 2000 ∧ findB l (digest s) = some (digest s, s) ∧ putT l s = (l, digest s, 1)) ∨
    ((putT l s).2.2 ≠ 0 ∧ (putT l s).2.2 ≠ 1 ∧ putT l s = (l, 0, (putT l s).2.2)) := by
  by_cases hb : 2000 < s.size
  · have e : putT l s = (l, 0, 4) := by unfold putT; rw [if_pos h, if_pos hb]
    rw [e]
    exact Or.inr (Or.inr ⟨by simp, by simp, rfl⟩)
  cases hf : findB l (digest s) with
  | some p =>
    obtain ⟨p1, p2⟩ := findB_some hf
    by_cases hp : p.2 = s
    · have e : putT l s = (l, digest s, 1) := by unfold putT; rw [if_pos h, if_neg hb, hf]; simp only [if_pos hp]
      rw [e]
      refine Or.inr (Or.inl ⟨rfl, by omega, ?_, rfl⟩)
      rw [← p2, ← hp]
    · have e : putT l s = (l, 0, 2) := by unfold putT; rw [if_pos h, if_neg hb, hf]; simp only [if_neg hp]
      rw [e]
      exact Or.inr (Or.inr ⟨by simp, by simp, rfl⟩)
  | none =>
    by_cases h300 : l.length = 300
    · have e : putT l s = (l, 0, 3) := by unfold putT; rw [if_pos h, if_neg hb, hf]; simp only [if_pos h300]
      rw [e]
      exact Or.inr (Or.inr ⟨by simp, by simp, rfl⟩)
    · have e : putT l s = (insB l (digest s, s), digest s, 0) := by unfold putT; rw [if_pos h, if_neg hb, hf]; simp only [if_neg h300]
      rw [e]
      exact Or.inl ⟨rfl, by omega, rfl, h300, rfl⟩
theorem laid_blobs {l : List It} {t : ByteArray} {st : Int} (h : storeB (itBs l) = true) : itBs (laidN l t st).1 = (putT (itBs l) t).1 := by
  unfold laidN
  rcases put_codes (s := t) h with ⟨h0, _, _, _, e⟩ | ⟨h0, _, _, e⟩ | ⟨h0, h1, e⟩
  · rw [if_pos h0, insI_blobs, e]
  · rw [if_neg (by rw [h0]; decide), if_pos h0, moreL_blobs, e]
  · rw [if_neg h0, if_neg h1, e]
theorem laid_rest {l : List It} {t : ByteArray} {st : Int} (h : storeB (itBs l) = true) : (laidN l t st).2 = (putT (itBs l) t).2 := by
  unfold laidN
  rcases put_codes (s := t) h with ⟨h0, _, _, _, e⟩ | ⟨h0, _, _, e⟩ | ⟨h0, h1, e⟩
  · rw [if_pos h0, e]
  · rw [if_neg (by rw [h0]; decide), if_pos h0, e]
  · rw [if_neg h0, if_neg h1]
    conv => rhs; rw [e]
theorem moreP_right {st : Int} {p : It} (h : itemP p) (hs : 0 ≤ st ∧ st ≤ 100000) : itemP (moreP st p) := by
  obtain ⟨⟨a1, a2⟩, ⟨b1, b2⟩, c⟩ := h
  unfold itemP moreP
  refine ⟨⟨?_, ?_⟩, ⟨b1, ?_⟩, fun e => ?_⟩
  · simp only; split <;> omega
  · simp only; split <;> omega
  · simp only; split <;> omega
  · simp only [Bool.and_eq_true, Bool.not_eq_true', decide_eq_false_iff_not] at e
    have := c e.1
    simp only
    rw [if_neg (by omega)]
    exact this
/-- a shelf stays right -/
theorem laid_right {r : Int} {l : List It} {t : ByteArray} {st : Int} (h : shelfB r l = true) (hs : 0 ≤ st ∧ st ≤ 100000) : shelfB r (laidN l t st).1 = true := by
  obtain ⟨h1, h2, h3⟩ := shelfB_iff.1 h
  refine shelfB_iff.2 ⟨h1, ?_, fun p hp => ?_⟩
  · rw [laid_blobs h2]
    rcases put_codes (s := t) h2 with ⟨h0, _⟩ | ⟨h0, _⟩ | ⟨_, _, e⟩
    · exact (put_ok h2 (Or.inl h0)).1
    · exact (put_ok h2 (Or.inr h0)).1
    · rw [e]; exact h2
  · unfold laidN at hp
    rcases put_codes (s := t) h2 with ⟨h0, _, hf, _, e⟩ | ⟨h0, _, _, e⟩ | ⟨h0, h9, e⟩
    · rw [if_pos h0] at hp
      have hn : ∀ q ∈ l, q.1 ≠ (digest t, t, st, (0 : Int), false).1 := fun q hq => findB_none.1 hf (itB q) (List.mem_map_of_mem hq)
      rcases (insI_mem hn).1 hp with rfl | hq
      · exact ⟨hs, ⟨Int.le_refl 0, hs.1⟩, fun e => by cases e⟩
      · exact h3 p hq
    · rw [if_neg (by rw [h0]; decide), if_pos h0] at hp
      obtain ⟨q, hq, rfl⟩ := List.mem_map.1 hp
      split
      · exact moreP_right (h3 q hq) hs
      · exact h3 q hq
    · rw [if_neg h0, if_neg h9] at hp
      exact h3 p hp
theorem laid_fetched {r : Int} {l : List It} {t : ByteArray} {st : Int} (h : shelfB r l = true) (hs : 0 ≤ st ∧ st ≤ 100000) (hk : (laidN l t st).2.2 = 0 ∨ (laidN l t st).2.2 = 1) : fetchedT r (laidN l t st).1 (digest t) = some t := by
  obtain ⟨h1, h2, h3⟩ := shelfB_iff.1 h
  unfold fetchedT
  rw [if_pos (laid_right h hs), laid_blobs h2]
  rw [laid_rest h2] at hk
  exact (put_ok h2 hk).2.2.1
theorem laid_same {l : List It} {t : ByteArray} {st : Int} (hk : (laidN l t st).2.2 ≠ 0 ∧ (laidN l t st).2.2 ≠ 1) : (laidN l t st).1 = l := by
  unfold laidN at hk ⊢
  split at hk
  · exact absurd rfl hk.1
  · rename_i h0
    split at hk
    · exact absurd rfl hk.2
    · rename_i h1
      rw [if_neg h0, if_neg h1]
theorem laid_len {l : List It} {t : ByteArray} {st : Int} (h : storeB (itBs l) = true) : (laidN l t st).1.length ≤ l.length + 1 := by
  have e := congrArg List.length (laid_blobs (t := t) (st := st) h)
  rw [List.length_map] at e
  rw [e]
  rcases put_codes (s := t) h with ⟨h0, _⟩ | ⟨_, _, _, e2⟩ | ⟨_, _, e2⟩
  · rw [(put_ok h (Or.inl h0)).2.2.2.2.2 h0, List.length_map]; exact Nat.le_refl _
  · rw [e2, List.length_map]; omega
  · rw [e2, List.length_map]; omega
end Go.Proofs.YtfoncmeplofedaqGreatDoor

namespace Go.Proofs.YtfoncmeplofedaqGreatDoor
open Go.RowKit
set_option linter.unusedVariables false
theorem sto_sub {l m : List Bl} (h : m.Sublist l) (hl : storeB l = true) : storeB m = true := by
  obtain ⟨h1, h2, h3⟩ := storeB_iff.1 hl
  exact storeB_iff.2 ⟨Nat.le_trans h.length_le h1, fun p hp => h2 p (h.subset hp), h3.sublist h⟩
theorem sync_blobs (l : List It) : itBs (syncL l) = itBs l := by
  unfold itBs syncL
  rw [List.map_map]
  rfl
theorem sync_right {r : Int} {l : List It} (h : shelfB r l = true) : shelfB r (syncL l) = true := by
  obtain ⟨h1, h2, h3⟩ := shelfB_iff.1 h
  refine shelfB_iff.2 ⟨h1, by rw [sync_blobs]; exact h2, fun p hp => ?_⟩
  obtain ⟨q, hq, rfl⟩ := List.mem_map.1 hp
  obtain ⟨⟨a1, a2⟩, _, _⟩ := h3 q hq
  exact ⟨⟨a1, a2⟩, ⟨a1, Int.le_refl _⟩, fun _ => rfl⟩
theorem crash_blobs (l : List It) : itBs (crashL l) = itBs (l.filter fun p => !lostP p) := by
  unfold itBs crashL
  rw [List.map_map]
  rfl
theorem crash_right {r : Int} {l : List It} (h : shelfB r l = true) : shelfB r (crashL l) = true := by
  obtain ⟨h1, h2, h3⟩ := shelfB_iff.1 h
  refine shelfB_iff.2 ⟨h1, by rw [crash_blobs]; exact sto_sub (List.filter_sublist.map _) h2, fun p hp => ?_⟩
  obtain ⟨q, hq, rfl⟩ := List.mem_map.1 hp
  obtain ⟨⟨a1, a2⟩, ⟨b1, b2⟩, _⟩ := h3 q (List.mem_filter.1 hq).1
  exact ⟨⟨b1, Int.le_trans b2 a2⟩, ⟨b1, Int.le_refl _⟩, fun _ => rfl⟩
theorem swept_right {r round : Int} {ms : List Int} {l : List It} (h : shelfB r l = true) (hr : 0 ≤ round ∧ round ≤ 100000) : shelfB round (sweptL round ms l) = true := by
  obtain ⟨h1, h2, h3⟩ := shelfB_iff.1 h
  exact shelfB_iff.2 ⟨hr, sto_sub (List.filter_sublist.map _) h2, fun p hp => h3 p (List.mem_filter.1 hp).1⟩
theorem sweptN_right {r round : Int} {ms : List Int} {l : List It} (h : shelfB r l = true) : shelfB (if round < r ∨ 100000 < round then r else round) (if round < r ∨ 100000 < round then l else sweptL round ms l) = true := by
  by_cases hc : round < r ∨ 100000 < round
  · rw [if_pos hc, if_pos hc]; exact h
  · rw [if_neg hc, if_neg hc]
    have := (shelfB_iff.1 h).1
    exact swept_right h ⟨by omega, by omega⟩
/-- the texts' sizes -/
abbrev SmI (l : List It) (B : Nat) : Prop := ∀ p ∈ l, p.2.1.size ≤ B
theorem smI_sync {l : List It} {B : Nat} (h : SmI l B) : SmI (syncL l) B := fun p hp => by obtain ⟨q, hq, rfl⟩ := List.mem_map.1 hp; exact h q hq
theorem smI_crash {l : List It} {B : Nat} (h : SmI l B) : SmI (crashL l) B := fun p hp => by obtain ⟨q, hq, rfl⟩ := List.mem_map.1 hp; exact h q (List.mem_filter.1 hq).1
theorem smI_swept {l : List It} {B : Nat} {round : Int} {ms : List Int} (h : SmI l B) : SmI (sweptL round ms l) B := fun p hp => h p (List.mem_filter.1 hp).1
theorem smI_laid {l : List It} {B : Nat} {t : ByteArray} {st : Int} (h : SmI l B) (ht : t.size ≤ B) : SmI (laidN l t st).1 B := fun p hp => by
  unfold laidN at hp
  split at hp
  · unfold insI at hp
    rcases List.mem_append.1 hp with hq | hq
    · exact h p (List.mem_filter.1 hq).1
    · rcases List.mem_cons.1 hq with rfl | hq
      · exact ht
      · exact h p (List.mem_filter.1 hq).1
  · split at hp
    · obtain ⟨q, hq, rfl⟩ := List.mem_map.1 hp
      split
      · exact h q hq
      · exact h q hq
    · exact h p hp
/-- what the drawn shelves are like, m steps ahead -/
def DrP (m : Nat) (r : Int) (l : List It) : Prop := shelfB r l = true ∧ SmI l 9 ∧ l.length + m ≤ 11
theorem drP_start {m : Nat} (h : m ≤ 11) : DrP m 0 [] := ⟨by decide, (fun p hp => by cases hp), by simpa using h⟩
theorem drP_sync {m : Nat} {r : Int} {l : List It} (h : DrP (m + 1) r l) : DrP m r (syncL l) := ⟨sync_right h.1, smI_sync h.2.1, by rw [List.length_map]; have := h.2.2; omega⟩
theorem drP_crash {m : Nat} {r : Int} {l : List It} (h : DrP (m + 1) r l) : DrP m r (crashL l) := ⟨crash_right h.1, smI_crash h.2.1, by have := h.2.2; have := crash_len l; omega⟩
theorem drP_less {m : Nat} {r : Int} {l : List It} (h : DrP (m + 1) r l) : DrP m r l := ⟨h.1, h.2.1, by have := h.2.2; omega⟩
theorem drP_swept {m : Nat} {r round : Int} {ms : List Int} {l : List It} (h : DrP (m + 1) r l) : DrP m (if round < r ∨ 100000 < round then r else round) (if round < r ∨ 100000 < round then l else sweptL round ms l) := by
  refine ⟨sweptN_right h.1, ?_, ?_⟩
  · split
    · exact h.2.1
    · exact smI_swept h.2.1
  · have := h.2.2
    have := swept_len round ms l
    split <;> omega
theorem drP_laid {m : Nat} {r : Int} {l : List It} {t : ByteArray} {st : Int} (h : DrP (m + 1) r l) (ht : t.size ≤ 9) (hs : 0 ≤ st ∧ st ≤ 100000) : DrP m r (laidN l t st).1 := by
  refine ⟨laid_right h.1 hs, smI_laid h.2.1 ht, ?_⟩
  have := h.2.2
  have := laid_len (t := t) (st := st) (shelfB_iff.1 h.1).2.1
  omega
end Go.Proofs.YtfoncmeplofedaqGreatDoor

namespace Go.Proofs.YtfoncmeplofedaqGreatDoor
open Go.RowKit
set_option linter.unusedVariables false
/-- a sweep of a round that is below the shelf's, or too great -/
def lateP (a r : Int) : Prop := a < r ∨ 100000 < a
abbrev lateD (a r : Int) : Decidable (lateP a r) := show Decidable (a < r ∨ 100000 < a) from inferInstance
/-- the marks that a note's text tells -/
def marksL (t : ByteArray) : List Int := (readNums (byts t)).getD []
/-- the shelf after a note, and whether that did something -/
def onT (p : Nt) (r : Int) (l : List It) : (Int × List It) × Bool :=
  if p.1 = 2 then ((if p.2.1 < r ∨ 100000 < p.2.1 then r else p.2.1, if p.2.1 < r ∨ 100000 < p.2.1 then l else sweptL p.2.1 (marksL p.2.2) l), !decide (p.2.1 < r ∨ 100000 < p.2.1))
  else ((r, (laidN l p.2.2 p.2.1).1), decide ((laidN l p.2.2 p.2.1).2.2 = 0 ∨ (laidN l p.2.2 p.2.1).2.2 = 1))
theorem onT_sweep {a r : Int} {t : ByteArray} {l : List It} : onT (2, a, t) r l = ((if a < r ∨ 100000 < a then r else a, if a < r ∨ 100000 < a then l else sweptL a (marksL t) l), !decide (a < r ∨ 100000 < a)) := by
  unfold onT; rw [if_pos rfl]
theorem onT_lay {a r : Int} {t : ByteArray} {l : List It} : onT (1, a, t) r l = ((r, (laidN l t a).1), decide ((laidN l t a).2.2 = 0 ∨ (laidN l t a).2.2 = 1)) := by
  unfold onT; rw [if_neg (show ¬ (1 : Int) = 2 by decide)]
theorem on_right {p : Nt} {r : Int} {l : List It} (hp : noteB p = true) (h : shelfB r l = true) : shelfB (onT p r l).1.1 (onT p r l).1.2 = true := by
  obtain ⟨k, a, t⟩ := p
  obtain ⟨hk, ha, ht⟩ := noteB_parts hp
  rcases hk with rfl | rfl
  · rw [onT_lay]; exact laid_right h ha
  · rw [onT_sweep]; exact sweptN_right h
theorem code_range {l : List It} {t : ByteArray} {st : Int} (h : storeB (itBs l) = true) : 0 ≤ (laidN l t st).2.2 ∧ (laidN l t st).2.2 ≤ 4 := by
  rw [laid_rest h]
  unfold putT
  rw [if_pos h]
  by_cases h2 : 2000 < t.size
  · rw [if_pos h2]; exact ⟨show (0 : Int) ≤ 4 by decide, show (4 : Int) ≤ 4 by decide⟩
  · rw [if_neg h2]
    cases findB (itBs l) (digest t) with
    | some p =>
      simp only
      by_cases h3 : p.2 = t
      · rw [if_pos h3]; exact ⟨show (0 : Int) ≤ 1 by decide, show (1 : Int) ≤ 4 by decide⟩
      · rw [if_neg h3]; exact ⟨show (0 : Int) ≤ 2 by decide, show (2 : Int) ≤ 4 by decide⟩
    | none =>
      simp only
      by_cases h3 : (itBs l).length = 300
      · rw [if_pos h3]; exact ⟨show (0 : Int) ≤ 3 by decide, show (3 : Int) ≤ 4 by decide⟩
      · rw [if_neg h3]; exact ⟨show (0 : Int) ≤ 0 by decide, show (0 : Int) ≤ 4 by decide⟩
theorem code_low {l : List It} {t : ByteArray} {st : Int} (h : storeB (itBs l) = true) : decide ((laidN l t st).2.2 ≤ 1) = decide ((laidN l t st).2.2 = 0 ∨ (laidN l t st).2.2 = 1) := by
  have h9 := code_range (t := t) (st := st) h
  by_cases h1 : (laidN l t st).2.2 ≤ 1
  · rw [decide_eq_true h1, decide_eq_true (by omega)]
  · rw [decide_eq_false h1, decide_eq_false (by omega)]
/-- all of a list's notes done, from a shelf and a count on; nothing where one is not right -/
def playN : List Nt → Int → List It → Int → Option ((Int × List It) × Int)
  | [], r, l, c => some ((r, l), c)
  | p :: ps, r, l, c => if noteB p = true then playN ps (onT p r l).1.1 (onT p r l).1.2 (if (onT p r l).2 = true then c + 1 else c) else none
def replayedT (ps : List Nt) : (Int × List It) × Int := match playN ps 0 [] 0 with
  | some ((r, l), c) => ((r, syncL l), c)
  | none => ((0, []), 0)
theorem playN_ok {p : Nt} {ps : List Nt} {r c : Int} {l : List It} (h : noteB p = true) : playN (p :: ps) r l c = playN ps (onT p r l).1.1 (onT p r l).1.2 (if (onT p r l).2 = true then c + 1 else c) := by
  show (if noteB p = true then _ else _) = _
  rw [if_pos h]
theorem playN_bad {p : Nt} {ps : List Nt} {r c : Int} {l : List It} (h : noteB p = false) : playN (p :: ps) r l c = none := by
  show (if noteB p = true then _ else _) = _
  rw [if_neg (by rw [h]; decide)]
theorem replayed_some {ps : List Nt} {r c : Int} {l : List It} (h : playN ps 0 [] 0 = some ((r, l), c)) : replayedT ps = ((r, syncL l), c) := by unfold replayedT; rw [h]
theorem replayed_none {ps : List Nt} (h : playN ps 0 [] 0 = none) : replayedT ps = ((0, []), 0) := by unfold replayedT; rw [h]
theorem right_empty : shelfB 0 [] = true := by
  refine shelfB_iff.2 ⟨by decide, storeB_iff.2 ⟨by simp [itBs], (fun p hp => by cases hp), List.Pairwise.nil⟩, fun p hp => by cases hp⟩
/-- the shelf of a list that is right -/
theorem play_right : ∀ (ps : List Nt) (r c : Int) (l : List It) (r' c' : Int) (l' : List It), shelfB r l = true → playN ps r l c = some ((r', l'), c') → shelfB r' l' = true
  | [], r, c, l, r', c', l', h, e => by
    simp only [playN, Option.some.injEq, Prod.mk.injEq] at e
    obtain ⟨⟨rfl, rfl⟩, _⟩ := e
    exact h
  | p :: ps, r, c, l, r', c', l', h, e => by
    cases hp : noteB p with
    | false => rw [playN_bad hp] at e; cases e
    | true =>
      rw [playN_ok hp] at e
      exact play_right ps _ _ _ r' c' l' (on_right hp h) e
/-- how many did something -/
theorem play_count : ∀ (ps : List Nt) (r c : Int) (l : List It) (r' c' : Int) (l' : List It), playN ps r l c = some ((r', l'), c') → c ≤ c' ∧ c' ≤ c + ps.length
  | [], r, c, l, r', c', l', e => by
    simp only [playN, Option.some.injEq, Prod.mk.injEq] at e
    obtain ⟨_, rfl⟩ := e
    exact ⟨Int.le_refl _, by simp⟩
  | p :: ps, r, c, l, r', c', l', e => by
    cases hp : noteB p with
    | false => rw [playN_bad hp] at e; cases e
    | true =>
      rw [playN_ok hp] at e
      have h9 := play_count ps _ _ _ r' c' l' e
      rw [List.length_cons]
      by_cases h1 : (onT p r l).2 = true
      · rw [if_pos h1] at h9; omega
      · rw [if_neg h1] at h9; omega
end Go.Proofs.YtfoncmeplofedaqGreatDoor

namespace Go.Proofs.YtfoncmeplofedaqGreatDoor
open Go.RowKit
def isRoundB (x : Int) : Bool := decide (0 ≤ x ∧ x ≤ 100000)
theorem isRound_any (x : Int) (w : World) : Calls Tryz.prog 47 #[.int .i64 x] w fun e w' => e = .returned (.bool (isRoundB x)) ∧ w' = w := by
  by_cases h0 : 0 ≤ x
  · by_cases h1 : x ≤ 100000
    · have e : isRoundB x = true := decide_eq_true ⟨h0, h1⟩
      rw [e]
      clear e
      go_enter Tryz.func47, Tryz.ntmps47
      go_wp2
      go_ret
      exact ⟨rfl, rfl⟩
    · have e : isRoundB x = false := decide_eq_false (fun h => h1 h.2)
      rw [e]
      clear e
      go_enter Tryz.func47, Tryz.ntmps47
      go_wp2
      go_ret
      exact ⟨rfl, rfl⟩
  · have e : isRoundB x = false := decide_eq_false (fun h => h0 h.1)
    rw [e]
    clear e
    go_enter Tryz.func47, Tryz.ntmps47
    go_wp2
    go_ret
    exact ⟨rfl, rfl⟩
end Go.Proofs.YtfoncmeplofedaqGreatDoor

namespace Go.Proofs.YtfoncmeplofedaqGreatDoor
open Go.RowKit
set_option linter.unusedVariables false
abbrev txs (l : List Bl) : List ByteArray := l.map Prod.snd
theorem txs_get {l : List Bl} {k : Nat} (h : k < l.length) : (txs l).getD k ByteArray.empty = (l.getD k bl0).2 := by simp [txs, List.getD, h]

abbrev blZ : Bl := (0, ⟨#[]⟩)
theorem made_blobs (n : Nat) : (madeCells (Value.agg #[.int .i64 0, .string ⟨#[]⟩]).cells (n * 2)).toList = blC (List.replicate n blZ) := by
  have e : ∀ m, (madeCells (Value.agg #[.int .i64 0, .string ⟨#[]⟩]).cells m).toList = (List.range m).map fun i => (#[Value.int .i64 0, Value.string ⟨#[]⟩])[i % 2]! := fun m => by simp [madeCells, Value.cells]
  rw [e]
  induction n with
  | zero => rfl
  | succ n ih =>
    rw [show (n + 1) * 2 = n * 2 + 1 + 1 by omega, List.range_succ, List.range_succ, List.map_append, List.map_append, ih, List.replicate_succ', blC_append, List.append_assoc]
    congr 1
    simp only [List.map_cons, List.map_nil, show n * 2 % 2 = 0 by omega, show (n * 2 + 1) % 2 = 1 by omega]
    rfl
theorem made_blobs2 (n : Nat) : (madeCells #[.int .i64 0, .string ⟨#[]⟩] (n * 2)).toList = blC (List.replicate n blZ) := made_blobs n
theorem copied_step {l : List Bl} {n k : Nat} (h : k < l.length) (hn : k < n) (z : Bl) : (l.take k ++ List.replicate (n - k) z).set k (l.getD k bl0) = l.take (k + 1) ++ List.replicate (n - (k + 1)) z := by
  have e1 : n - k = (n - (k + 1)) + 1 := by omega
  have e2 : (l.take k).length = k := by rw [List.length_take]; omega
  rw [e1, List.replicate_succ, List.set_append_right _ _ (by omega), e2, Nat.sub_self, List.set_cons_zero, List.take_succ_eq_append_getElem h, List.append_assoc]
  simp [List.getD, h]
theorem Tryz.infoBl : (Tryz.prog.info? 67).map (fun i => (i.zero, i.size, i.bytes)) = some (some (.agg #[.int .i64 0, .string ⟨#[]⟩]), 2, 24) := by kernel_rfl
end Go.Proofs.YtfoncmeplofedaqGreatDoor

namespace Go.Proofs.YtfoncmeplofedaqGreatDoor
open Go.RowKit
set_option linter.unusedVariables false
theorem ret_boolB {a b : Bool} (h : a = b) : Ending.returned (.bool a) = .returned (.bool b) := by rw [h]
theorem eqBlob_same (d : Int) (t : ByteArray) (w : World) :
    Calls Tryz.prog 56 #[.agg #[.int .i64 d, .string t], .agg #[.int .i64 d, .string t]] w fun e w' => e = .returned (.bool true) ∧ Below w.heap.size w w' := by
  have hb := ((Below.refl w.heap.size w).alloc (Nat.le_refl _) (.cells #[.int .i64 d, .string t] 67)).alloc (by simp) (.cells #[.int .i64 d, .string t] 67)
  go_enter Tryz.func56, Tryz.ntmps56
  go_wp2
  go_ret
  exact ⟨by first | rfl | simp, hb⟩
end Go.Proofs.YtfoncmeplofedaqGreatDoor

namespace Go.Proofs.YtfoncmeplofedaqGreatDoor
open Go.RowKit
set_option linter.unusedVariables false
abbrev itV (p : It) : Value := .agg #[.int .i64 p.1, .string p.2.1, .int .i64 p.2.2.1, .int .i64 p.2.2.2.1, .bool p.2.2.2.2]
theorem Tryz.infoIt : (Tryz.prog.info? 69).map (fun i => (i.zero, i.size, i.bytes)) = some (some (.agg #[.int .i64 0, .string ⟨#[]⟩, .int .i64 0, .int .i64 0, .bool false]), 5, 48) := by kernel_rfl
abbrev OwnI (w : World) (B : Nat) (v : Value) (l : List It) : Prop := OwnG itf 5 69 w B v l
theorem alloc_sizeI (X : World) (o : Obj) : (X.alloc o).heap.size = X.heap.size + 1 := by show (X.heap.push _).size = _; rw [Array.size_push]
abbrev itZ : It := (0, ⟨#[]⟩, 0, 0, false)
theorem made_items (n : Nat) : (madeCells (Value.agg #[.int .i64 0, .string ⟨#[]⟩, .int .i64 0, .int .i64 0, .bool false]).cells (n * 5)).toList = rowC itf (List.replicate n itZ) := made_G itW (z := Value.agg #[.int .i64 0, .string ⟨#[]⟩, .int .i64 0, .int .i64 0, .bool false]) rfl n
theorem eqItem_same (d : Int) (t : ByteArray) (s k : Int) (u : Bool) (w : World) :
    Calls Tryz.prog 43 #[.agg #[.int .i64 d, .string t, .int .i64 s, .int .i64 k, .bool u], .agg #[.int .i64 d, .string t, .int .i64 s, .int .i64 k, .bool u]] w fun e w' => e = .returned (.bool true) ∧ Below w.heap.size w w' := by
  have hb := ((Below.refl w.heap.size w).alloc (Nat.le_refl _) (.cells #[.int .i64 d, .string t, .int .i64 s, .int .i64 k, .bool u] 69)).alloc (by simp) (.cells #[.int .i64 d, .string t, .int .i64 s, .int .i64 k, .bool u] 69)
  have hX : ((w.alloc (.cells #[.int .i64 d, .string t, .int .i64 s, .int .i64 k, .bool u] 69)).alloc (.cells #[.int .i64 d, .string t, .int .i64 s, .int .i64 k, .bool u] 69)).heap[w.heap.size]? = some (.cells #[.int .i64 d, .string t, .int .i64 s, .int .i64 k, .bool u] 69 (0, 0)) := (Below.heap_alloc _ _ _ (by simp)).trans (heap_alloc_new w _)
  have hY : ((w.alloc (.cells #[.int .i64 d, .string t, .int .i64 s, .int .i64 k, .bool u] 69)).alloc (.cells #[.int .i64 d, .string t, .int .i64 s, .int .i64 k, .bool u] 69)).heap[w.heap.size + 1]? = some (.cells #[.int .i64 d, .string t, .int .i64 s, .int .i64 k, .bool u] 69 (0, 0)) := by
    have e := heap_alloc_new (w.alloc (.cells #[.int .i64 d, .string t, .int .i64 s, .int .i64 k, .bool u] 69)) (.cells #[.int .i64 d, .string t, .int .i64 s, .int .i64 k, .bool u] 69)
    rw [show (w.alloc (.cells #[.int .i64 d, .string t, .int .i64 s, .int .i64 k, .bool u] 69)).heap.size = w.heap.size + 1 by simp] at e
    exact e
  have hs2 : ((w.alloc (.cells #[.int .i64 d, .string t, .int .i64 s, .int .i64 k, .bool u] 69)).alloc (.cells #[.int .i64 d, .string t, .int .i64 s, .int .i64 k, .bool u] 69)).heap.size = w.heap.size + 1 + 1 := by simp
  have hcon : Hid (∀ W, W = (w.alloc (.cells #[.int .i64 d, .string t, .int .i64 s, .int .i64 k, .bool u] 69)).alloc (.cells #[.int .i64 d, .string t, .int .i64 s, .int .i64 k, .bool u] 69) → Calls Tryz.prog 56 #[.agg #[.int .i64 d, .string t], .agg #[.int .i64 d, .string t]] W fun e w' => e = .returned (.bool true) ∧ Hid (Below w.heap.size w w') ∧ w'.heap[w.heap.size]? = some (.cells #[.int .i64 d, .string t, .int .i64 s, .int .i64 k, .bool u] 69 (0, 0)) ∧ w'.heap[w.heap.size + 1]? = some (.cells #[.int .i64 d, .string t, .int .i64 s, .int .i64 k, .bool u] 69 (0, 0))) := by
    intro W hW
    rw [← hW] at hb hX hY hs2
    refine (eqBlob_same d t W).mono ?_
    rintro e w' ⟨rfl, hb1⟩
    exact ⟨rfl, hb.trans (hb1.mono hb.size), (hb1.block _ (by omega)).trans hX, (hb1.block _ (by omega)).trans hY⟩
  clear hb hX hY hs2
  go_enter Tryz.func43, Tryz.ntmps43
  go_wp2_with fail
  refine (hcon.out _ rfl).mono ?_
  rintro e w1 ⟨rfl, hb1, hx, hy⟩
  have x2 := cell_of_row w1 (w.heap.size) 2 _ _ (0, 0) hx
  have x3 := cell_of_row w1 (w.heap.size) 3 _ _ (0, 0) hx
  have x4 := cell_of_row w1 (w.heap.size) 4 _ _ (0, 0) hx
  have y2 := cell_of_row w1 (w.heap.size + 1) 2 _ _ (0, 0) hy
  have y3 := cell_of_row w1 (w.heap.size + 1) 3 _ _ (0, 0) hy
  have y4 := cell_of_row w1 (w.heap.size + 1) 4 _ _ (0, 0) hy
  simp at x2 x3 x4 y2 y3 y4
  clear hx hy hcon
  go_wp2
  go_ret
  exact ⟨by first | rfl | simp, hb1.out⟩
set_option maxHeartbeats 1000000 in
set_option maxRecDepth 100000 in
theorem eqItemS_same (va vb : Value) (xs : List It) (w : World) (ha : RdG itf 5 w va xs) (hb : RdG itf 5 w vb xs) (hl : xs.length ≤ 1048576) :
    Calls Tryz.prog 23 #[va, vb] w fun e w' => e = .returned (.bool true) ∧ Below w.heap.size w w' := by
  rcases rdG_cases ha with ⟨h0, ao, cap, rfl⟩ | ⟨hp, b, off, cap, rfl, _, hlt, hc⟩
  · subst h0
    obtain ⟨bo, bcap, rfl⟩ := rdG_shape hb
    go_enter Tryz.func23, Tryz.ntmps23
    go_wp2
    refine wp_loop_rounds 1 ?_
    rw [rounds_succ]
    go_wp2
    go_ret
    exact ⟨rfl, Below.refl _ _⟩
  · rcases rdG_cases hb with ⟨h0, ao, cap', rfl⟩ | ⟨_, b', off', cap', rfl, _, hlt', hc'⟩
    · rw [h0] at hp; simp at hp
    · have HA : Hid (∀ j, j < xs.length → ∀ w', Below w.heap.size w w' → w'.cell? ⟨b, off + j * 5, none⟩ = some (.int .i64 (xs.getD j it0).1) ∧ w'.cell? ⟨b, off + j * 5 + 1, none⟩ = some (.string (xs.getD j it0).2.1) ∧ w'.cell? ⟨b, off + j * 5 + 2, none⟩ = some (.int .i64 (xs.getD j it0).2.2.1) ∧ w'.cell? ⟨b, off + j * 5 + 3, none⟩ = some (.int .i64 (xs.getD j it0).2.2.2.1) ∧ w'.cell? ⟨b, off + j * 5 + 4, none⟩ = some (.bool (xs.getD j it0).2.2.2.2)) := fun j hj w' h => it_cells (cellsG_below hc hlt h) hj
      have HB : Hid (∀ j, j < xs.length → ∀ w', Below w.heap.size w w' → w'.cell? ⟨b', off' + j * 5, none⟩ = some (.int .i64 (xs.getD j it0).1) ∧ w'.cell? ⟨b', off' + j * 5 + 1, none⟩ = some (.string (xs.getD j it0).2.1) ∧ w'.cell? ⟨b', off' + j * 5 + 2, none⟩ = some (.int .i64 (xs.getD j it0).2.2.1) ∧ w'.cell? ⟨b', off' + j * 5 + 3, none⟩ = some (.int .i64 (xs.getD j it0).2.2.2.1) ∧ w'.cell? ⟨b', off' + j * 5 + 4, none⟩ = some (.bool (xs.getD j it0).2.2.2.2)) := fun j hj w' h => it_cells (cellsG_below hc' hlt' h) hj
      obtain ⟨n, hn⟩ : ∃ n, n = xs.length := ⟨_, rfl⟩
      rw [← hn] at hl hp HA HB ⊢
      clear hc hc' hp hn ha hb
      go_enter Tryz.func23, Tryz.ntmps23
      go_wp2
      go_loopw [5] (fun i wr => ∃ k : Nat, k ≤ n ∧ i = .int .i64 k ∧ Hid (Below w.heap.size w wr)) (fun i _ => n - (intOf i).toNat)
      case atStart => exact ⟨0, Nat.zero_le _, rfl, Below.refl _ _⟩
      case round =>
        rename World => w1
        obtain ⟨k, hk, rfl, hB⟩ := hrel
        have hs1 := hB.out.size
        by_cases hltk : k < n
        · obtain ⟨d0, d1, d2, d3, d4⟩ := HA.out k hltk _ hB.out
          obtain ⟨e0, e1, e2, e3, e4⟩ := HB.out k hltk _ hB.out
          obtain ⟨x, hxx⟩ : ∃ x, x = xs.getD k it0 := ⟨_, rfl⟩
          rw [← hxx] at d0 d1 d2 d3 d4 e0 e1 e2 e3 e4
          obtain ⟨x1, x2, x3, x4, x5⟩ := x
          clear hxx
          have hcall := Lib.hid (fun W => eqItem_same x1 x2 x3 x4 x5 W)
          have hltI : (k : Int) < (n : Int) := by omega
          go_wp2
          go_region_with (first | (go_at_call 43; refine (hcall.out _).mono ?_; rintro e w2 ⟨rfl, hb2⟩))
          all_goals
            have HB2 : Hid (Below w.heap.size w w2) := by first | exact hB.out.trans (hb2.mono hs1) | exact hB.out.drew.trans (hb2.mono hs1)
            clear hcall hb2
            go_wp2
            go_roundw
            case rel => exact ⟨k + 1, by omega, by go_num, HB2⟩
            case measure => simp [intOf]; omega
        · go_wp2
          go_ret
          exact ⟨rfl, hB.out⟩
theorem szF_neg : ∀ (l : List ByteArray) (z : Int), 0 ≤ z → szF l z = -1 ∨ 0 ≤ szF l z
  | [], z, h => Or.inr h
  | a :: t, z, h => by
    rw [szF]
    by_cases h1 : z - (a.size : Int) < 0
    · rw [if_pos h1]; exact Or.inl rfl
    · rw [if_neg h1]; exact szF_neg t _ (by omega)
theorem szS_neg (l : List ByteArray) (z : Int) : szS l z = -1 ∨ 0 ≤ szS l z := by
  unfold szS
  by_cases h : z - (l.length : Int) < 0
  · rw [if_pos h]; exact Or.inl rfl
  · rw [if_neg h]; exact szF_neg l _ (by omega)
theorem own_setCell {w : World} {B : Nat} {e : TypeId} {k : Nat} {v : Value} {n : Nat} {xs : List Value} (h : w.ownsRow B e k v n xs) {p : Addr} (hp : p.block < B) (u : Value) : (w.setCell p u).ownsRow B e k v n xs := by
  refine ⟨h.1, ?_⟩
  rcases h.2 with ⟨hv, h0⟩ | ⟨g, cap, cur, hv, hbg, hh, rest⟩
  · exact Or.inl ⟨hv, h0⟩
  · exact Or.inr ⟨g, cap, cur, hv, hbg, by rw [Below.heap_setCell _ _ _ _ (by omega)]; exact hh, rest⟩
theorem own_lower {w : World} {B B' : Nat} {e : TypeId} {k : Nat} {v : Value} {n : Nat} {xs : List Value} (h : w.ownsRow B e k v n xs) (hB : B' ≤ B) : w.ownsRow B' e k v n xs := by
  refine ⟨h.1, ?_⟩
  rcases h.2 with ⟨hv, h0⟩ | ⟨g, cap, cur, hv, hbg, rest⟩
  · exact Or.inl ⟨hv, h0⟩
  · exact Or.inr ⟨g, cap, cur, hv, Nat.le_trans hB hbg, rest⟩
theorem eqShelf_same (r : Int) (va vb : Value) (xs : List It) (w : World) (ha : RdG itf 5 w va xs) (hb : RdG itf 5 w vb xs) (hl : xs.length ≤ 1048576) :
    Calls Tryz.prog 8 #[.agg #[.int .i64 r, va], .agg #[.int .i64 r, vb]] w fun e w' => e = .returned (.bool true) ∧ Below w.heap.size w w' := by
  obtain ⟨ao, cap, rfl⟩ := rdG_shape ha
  obtain ⟨bo, bcap, rfl⟩ := rdG_shape hb
  have hB := ((Below.refl w.heap.size w).alloc (Nat.le_refl _) (.cells #[.int .i64 r, .slice ao xs.length cap] 26)).alloc (by simp) (.cells #[.int .i64 r, .slice bo xs.length bcap] 26)
  have hc := Lib.hid (eqItemS_same _ _ xs _ (rdG_below ha hB) (rdG_below hb hB) hl)
  clear ha hb
  go_enter Tryz.func8, Tryz.ntmps8
  go_wp2_with fail
  refine hc.out.mono ?_
  rintro e w1 ⟨rfl, hb1⟩
  have hB1 := hB.trans (hb1.mono hB.size)
  clear hb1 hc hB
  go_wp2
  go_ret
  exact ⟨by first | rfl | simp, hB1⟩
end Go.Proofs.YtfoncmeplofedaqGreatDoor

namespace Go.Proofs.YtfoncmeplofedaqGreatDoor
open Go.RowKit
set_option linter.unusedVariables false
theorem ret_boolS {a b : Bool} (h : a = b) : Ending.returned (.bool a) = .returned (.bool b) := by rw [h]
set_option maxHeartbeats 2000000 in
set_option maxRecDepth 100000 in
theorem specStoreOk_any (va : Value) (l : List Bl) (w : World) (ha : RdB w va l) (hl : l.length ≤ 1048576) (hs : ∀ p ∈ l, p.2.size ≤ 1048576) :
    Calls Tryz.prog 44 #[va] w fun e w' => e = .returned (.bool (storeB l)) ∧ Below w.heap.size w w' := by
  by_cases h300 : 300 < l.length
  focus
    have e := storeB_len (l := l) (by omega)
    rw [e]
    obtain ⟨ao, cap, rfl⟩ := rdB_shape ha
    have hI : (300 : Int) < (l.length : Int) := by omega
    clear e
    go_enter Tryz.func44, Tryz.ntmps44
    go_wp2
    go_ret
    exact ⟨rfl, Below.refl _ _⟩
  have hI : ¬ (300 : Int) < (l.length : Int) := by omega
  rcases rdB_cases ha with ⟨h0, ao, cap, rfl⟩ | ⟨hp, b, off, cap, rfl, _, hlt, hc⟩
  · subst h0
    have e : storeB [] = true := rfl
    rw [e]
    go_enter Tryz.func44, Tryz.ntmps44
    go_wp2
    refine wp_loop_rounds 1 ?_
    rw [rounds_succ]
    go_wp2
    go_ret
    exact ⟨rfl, Below.refl _ _⟩
  have HA := Lib.hid hc
  have HNO : Hid (∀ i, i < l.length → ¬ ((l.getD i bl0).2.size ≤ 2000 ∧ (l.getD i bl0).1 = digest (l.getD i bl0).2 ∧ (i = 0 ∨ (l.getD (i - 1) bl0).1 < (l.getD i bl0).1)) → storeB l = false) := fun i hi h => storeB_at hi (by
    cases hk : okAt l i with
    | false => rfl
    | true => exact absurd (okAt_iff.1 hk) h)
  have HYES : Hid ((∀ i, i < l.length → ((l.getD i bl0).2.size ≤ 2000 ∧ (l.getD i bl0).1 = digest (l.getD i bl0).2 ∧ (i = 0 ∨ (l.getD (i - 1) bl0).1 < (l.getD i bl0).1))) → storeB l = true) := fun h => storeB_all (by omega) (fun i hi => okAt_iff.2 (h i hi))
  have HS : Hid (∀ i, i < l.length → (l.getD i bl0).2.size ≤ 1048576) := fun i hi => by
    rw [getD_at hi]
    exact hs _ (List.getElem_mem hi)
  generalize storeB l = r at HNO HYES ⊢
  obtain ⟨n, hn⟩ : ∃ n, n = l.length := ⟨_, rfl⟩
  rw [← hn] at hp hl hI h300 HA HNO HYES HS ⊢
  clear hc ha hn hs
  go_enter Tryz.func44, Tryz.ntmps44
  go_wp2
  go_loopw [3] (fun i wr => ∃ k q : Nat, k ≤ n ∧ i = .int .i64 k ∧ wr = w.drewN q ∧ Hid (∀ i, i < k → ((l.getD i bl0).2.size ≤ 2000 ∧ (l.getD i bl0).1 = digest (l.getD i bl0).2 ∧ (i = 0 ∨ (l.getD (i - 1) bl0).1 < (l.getD i bl0).1)))) (fun i _ => n - (intOf i).toNat)
  case atStart => exact ⟨0, 0, Nat.zero_le _, rfl, rfl, fun i h => by omega⟩
  case round =>
    obtain ⟨k, q, hk, rfl, rfl, hok⟩ := hrel
    by_cases hltk : k < n
    focus
      obtain ⟨d0, d1⟩ := HA.out k hltk
      have hsz := HS.out k hltk
      have HNk := Lib.hid (HNO.out k hltk)
      have hnew : Hid (((l.getD k bl0).2.size ≤ 2000 ∧ (l.getD k bl0).1 = digest (l.getD k bl0).2 ∧ (k = 0 ∨ (l.getD (k - 1) bl0).1 < (l.getD k bl0).1)) → ∀ i, i < k + 1 → ((l.getD i bl0).2.size ≤ 2000 ∧ (l.getD i bl0).1 = digest (l.getD i bl0).2 ∧ (i = 0 ∨ (l.getD (i - 1) bl0).1 < (l.getD i bl0).1))) := fun h i hi => by
        rcases Nat.lt_or_ge i k with g | g
        · exact hok.out i g
        · obtain rfl : i = k := by omega
          exact h
      have hprev : 0 < k → w.cell? ⟨b, off + (k - 1) * 2, none⟩ = some (.int .i64 (l.getD (k - 1) bl0).1) := fun h => (HA.out (k - 1) (by omega)).1
      obtain ⟨t, ht⟩ : ∃ t, t = (l.getD k bl0).2 := ⟨_, rfl⟩
      obtain ⟨x, hx⟩ : ∃ x, x = (l.getD k bl0).1 := ⟨_, rfl⟩
      obtain ⟨y, hy⟩ : ∃ y, y = (l.getD (k - 1) bl0).1 := ⟨_, rfl⟩
      rw [← ht] at d1 hsz
      rw [← hx] at d0
      rw [← hy] at hprev
      rw [← ht, ← hx, ← hy] at HNk hnew
      clear ht hx hy hok
      have hltI : (k : Int) < (n : Int) := by omega
      obtain ⟨dg, hdg⟩ : ∃ dg, dg = digest t := ⟨_, rfl⟩
      have HX : Hid (digest t = dg) := hdg.symm
      rw [← hdg] at HNk hnew
      clear hdg
      by_cases h2 : 2000 < t.size
      focus
        have HR := Lib.hid (HNk.out (fun h => by omega))
        clear HNk hnew hprev
        go_wp2
        have g1 : decide ((2000 : Int) < (t.size : Int)) = true := decide_eq_true (by omega)
        go_quiet (first | (go_at_call 45; refine (specDigest_any t _ (by omega)).mono ?_; rintro e w8 ⟨rfl, rfl⟩; rw [HX.out]; exact ⟨rfl, ⟨_, rfl⟩⟩))
        go_wp2
        go_ret
        exact ⟨ret_boolS HR.out.symm, by first | exact below_drewN (Below.refl _ _) _ | exact below_drewN (below_drewN (Below.refl _ _) _) _⟩
      by_cases hxd : x = dg
      rotate_left
      focus
        have HR := Lib.hid (HNk.out (fun h => hxd h.2.1))
        clear HNk hnew hprev
        go_wp2
        have g1 : decide ((2000 : Int) < (t.size : Int)) = false := decide_eq_false (by omega)
        have g2 : (x == dg) = false := beq_eq_false_iff_ne.2 hxd
        have g3 : (x != dg) = true := by simp [hxd]
        go_quiet (first | (go_at_call 45; refine (specDigest_any t _ (by omega)).mono ?_; rintro e w8 ⟨rfl, rfl⟩; rw [HX.out]; exact ⟨rfl, ⟨_, rfl⟩⟩))
        go_wp2
        go_ret
        exact ⟨ret_boolS HR.out.symm, by first | exact below_drewN (Below.refl _ _) _ | exact below_drewN (below_drewN (Below.refl _ _) _) _⟩
      subst hxd
      by_cases hk0 : k = 0
      focus
        have HN := Lib.hid (hnew.out ⟨by omega, rfl, Or.inl hk0⟩)
        clear HNk hnew hprev
        go_wp2
        have g1 : decide ((2000 : Int) < (t.size : Int)) = false := decide_eq_false (by omega)
        have g2 : decide (0 < k) = false := decide_eq_false (by omega)
        clear hk0
        go_quiet (first | (go_at_call 45; refine (specDigest_any t _ (by omega)).mono ?_; rintro e w8 ⟨rfl, rfl⟩; rw [HX.out]; exact ⟨rfl, ⟨_, rfl⟩⟩))
        go_wp2
        go_roundw
        case rel => exact ⟨k + 1, _, by omega, by go_num, rfl, HN⟩
        case measure => simp [intOf]; omega
      have d2 := hprev (by omega)
      obtain ⟨j, hj⟩ : ∃ j : Nat, (k : Int) - 1 = (j : Int) := ⟨k - 1, by omega⟩
      have hjk : k - 1 = j := by omega
      rw [hjk] at d2
      have hjn : j < n := by omega
      by_cases hle : x ≤ y
      focus
        have HR := Lib.hid (HNk.out (fun h => by omega))
        clear HNk hnew hprev hjk
        go_wp2
        have g1 : decide ((2000 : Int) < (t.size : Int)) = false := decide_eq_false (by omega)
        have g2 : decide (0 < k) = true := decide_eq_true (by omega)
        have g3 : decide (x ≤ y) = true := decide_eq_true hle
        go_quiet (first | (go_at_call 45; refine (specDigest_any t _ (by omega)).mono ?_; rintro e w8 ⟨rfl, rfl⟩; rw [HX.out]; exact ⟨rfl, ⟨_, rfl⟩⟩))
        go_wp2
        go_ret
        exact ⟨ret_boolS HR.out.symm, by first | exact below_drewN (Below.refl _ _) _ | exact below_drewN (below_drewN (Below.refl _ _) _) _⟩
      have HN := Lib.hid (hnew.out ⟨by omega, rfl, Or.inr (by omega)⟩)
      clear HNk hnew hprev hjk
      go_wp2
      have g1 : decide ((2000 : Int) < (t.size : Int)) = false := decide_eq_false (by omega)
      have g2 : decide (0 < k) = true := decide_eq_true (by omega)
      have g3 : decide (x ≤ y) = false := decide_eq_false (by omega)
      go_quiet (first | (go_at_call 45; refine (specDigest_any t _ (by omega)).mono ?_; rintro e w8 ⟨rfl, rfl⟩; rw [HX.out]; exact ⟨rfl, ⟨_, rfl⟩⟩))
      go_wp2
      go_roundw
      case rel => exact ⟨k + 1, _, by omega, by go_num, rfl, HN⟩
      case measure => simp [intOf]; omega
    have HR := Lib.hid (HYES.out (fun i hi => hok.out i (by omega)))
    have hltI : ¬ (k : Int) < (n : Int) := by omega
    go_wp2
    go_ret
    exact ⟨ret_boolS HR.out.symm, by first | exact below_drewN (Below.refl _ _) _ | exact below_drewN (below_drewN (Below.refl _ _) _) _⟩
/-- where the first of a digest is -/
def idxB (l : List Bl) (d : Int) : Option Nat := l.findIdx? fun p => p.1 == d
theorem idxB_is {l : List Bl} {d : Int} {k : Nat} (hk : k < l.length) (h : (l.getD k bl0).1 = d) (hn : ∀ j, j < k → (l.getD j bl0).1 ≠ d) : idxB l d = some k ∧ findB l d = some (l.getD k bl0) := by
  unfold idxB findB
  constructor
  · rw [List.findIdx?_eq_some_iff_getElem]
    refine ⟨hk, by rw [← getD_at hk]; exact beq_iff_eq.2 h, fun j hj => ?_⟩
    have := hn j hj
    rw [getD_at (by omega)] at this
    simp [this]
  · rw [List.find?_eq_some_iff_getElem]
    refine ⟨beq_iff_eq.2 h, k, hk, by rw [getD_at hk], fun j hj => ?_⟩
    have := hn j hj
    rw [getD_at (by omega)] at this
    simp [this]
theorem idxB_no {l : List Bl} {d : Int} (hn : ∀ j, j < l.length → (l.getD j bl0).1 ≠ d) : idxB l d = none ∧ findB l d = none := by
  have h : ∀ p ∈ l, p.1 ≠ d := fun p hp => by
    obtain ⟨j, hj, rfl⟩ := List.getElem_of_mem hp
    have := hn j hj
    rwa [getD_at hj] at this
  refine ⟨?_, findB_none.2 h⟩
  unfold idxB
  rw [List.findIdx?_eq_none_iff]
  exact fun p hp => by simp [h p hp]
def findI (l : List Bl) (d : Int) : Int := match idxB l d with
  | some k => (k : Int)
  | none => -1
set_option maxRecDepth 100000 in
theorem l7Find_any (va : Value) (l : List Bl) (d : Int) (w : World) (ha : RdB w va l) (hl : l.length ≤ 1048576) :
    Calls Tryz.prog 32 #[va, .int .i64 d] w fun e w' => e = .returned (.int .i64 (findI l d)) ∧ w' = w := by
  rcases rdB_cases ha with ⟨h0, ao, cap, rfl⟩ | ⟨hp, b, off, cap, rfl, _, hlt, hc⟩
  · subst h0
    have e : findI [] d = -1 := rfl
    rw [e]
    go_enter Tryz.func32, Tryz.ntmps32
    go_wp2
    refine wp_loop_rounds 1 ?_
    rw [rounds_succ]
    go_wp2
    go_ret
    exact ⟨rfl, rfl⟩
  have HA := Lib.hid hc
  have HY : Hid (∀ k, k < l.length → (l.getD k bl0).1 = d → (∀ j, j < k → (l.getD j bl0).1 ≠ d) → findI l d = (k : Int)) := fun k hk h hn => by
    unfold findI
    rw [(idxB_is hk h hn).1]
  have HN : Hid ((∀ j, j < l.length → (l.getD j bl0).1 ≠ d) → findI l d = -1) := fun h => by
    unfold findI
    rw [(idxB_no h).1]
  generalize findI l d = r at HY HN ⊢
  obtain ⟨n, hn⟩ : ∃ n, n = l.length := ⟨_, rfl⟩
  rw [← hn] at hp hl HA HY HN ⊢
  clear hc ha hn
  go_enter Tryz.func32, Tryz.ntmps32
  go_wp2
  go_loop [5] (fun i => ∃ k : Nat, k ≤ n ∧ i = .int .i64 k ∧ Hid (∀ j, j < k → (l.getD j bl0).1 ≠ d)) (fun i => n - (intOf i).toNat)
  case atStart => exact ⟨0, Nat.zero_le _, rfl, fun j h => by omega⟩
  case round =>
    obtain ⟨k, hk, rfl, hno⟩ := hrel
    by_cases hltk : k < n
    focus
      obtain ⟨d0, _⟩ := HA.out k hltk
      have HYk := Lib.hid (fun h => HY.out k hltk h hno.out)
      have hnew : Hid ((l.getD k bl0).1 ≠ d → ∀ j, j < k + 1 → (l.getD j bl0).1 ≠ d) := fun h j hj => by
        rcases Nat.lt_or_ge j k with g | g
        · exact hno.out j g
        · obtain rfl : j = k := by omega
          exact h
      obtain ⟨x, hx⟩ : ∃ x, x = (l.getD k bl0).1 := ⟨_, rfl⟩
      rw [← hx] at d0 HYk hnew
      clear hx hno
      by_cases hxd : x = d
      focus
        have HR := Lib.hid (HYk.out hxd)
        subst hxd
        clear HYk hnew
        go_wp2
        go_ret
        exact ⟨ret_int HR.out.symm, rfl⟩
      have HS := Lib.hid (hnew.out hxd)
      have g1 : (x == d) = false := beq_eq_false_iff_ne.2 hxd
      clear HYk hnew
      go_wp2
      go_round
      case rel => exact ⟨k + 1, by omega, by go_num, HS⟩
      case measure => simp [intOf]; omega
    have HR := Lib.hid (HN.out (fun j hj => hno.out j (by omega)))
    go_wp2
    go_ret
    exact ⟨ret_int HR.out.symm, rfl⟩
set_option maxRecDepth 100000 in
theorem l1Has_any (va : Value) (l : List Int) (d : Int) (w : World) (ha : Rd w va (cellsInt64S l)) (hl : l.length ≤ 1048576) :
    Calls Tryz.prog 35 #[va, .int .i64 d] w fun e w' => e = .returned (.bool (l.contains d)) ∧ w' = w := by
  have hla : (cellsInt64S l).length = l.length := by simp
  rcases rd_cases ha with ⟨h0, ao, cap, rfl⟩ | ⟨hp, b, off, cap, rfl, _, hlt, hc⟩
  · have hx : l = [] := by simpa using h0
    subst hx
    go_enter Tryz.func35, Tryz.ntmps35
    go_wp2
    refine wp_loop_rounds 1 ?_
    rw [rounds_succ]
    go_wp2
    go_ret
    exact ⟨rfl, rfl⟩
  rw [hla] at hc hp ⊢
  have HA : Hid (∀ j, j < l.length → w.cell? ⟨b, off + j, none⟩ = some (.int .i64 (l.getD j 0))) := fun j hj => (hc j hj).trans (ints_get _ l j hj)
  have HY : Hid (∀ k, k < l.length → l.getD k 0 = d → l.contains d = true) := fun k hk h => by
    have e : l.getD k 0 = l[k] := by simp [List.getD, hk]
    rw [e] at h
    rw [← h]
    simp
  have HN : Hid ((∀ j, j < l.length → l.getD j 0 ≠ d) → l.contains d = false) := fun h => by
    cases hcn : l.contains d with
    | false => rfl
    | true =>
      have hm : d ∈ l := by simpa using hcn
      obtain ⟨j, hj, e⟩ := List.getElem_of_mem hm
      exact absurd (by simp [List.getD, hj, e]) (h j hj)
  generalize l.contains d = r at HY HN ⊢
  obtain ⟨n, hn⟩ : ∃ n, n = l.length := ⟨_, rfl⟩
  rw [← hn] at hp hl HA HY HN ⊢
  clear hc ha hn hla
  go_enter Tryz.func35, Tryz.ntmps35
  go_wp2
  go_loop [5] (fun i => ∃ k : Nat, k ≤ n ∧ i = .int .i64 k ∧ Hid (∀ j, j < k → l.getD j 0 ≠ d)) (fun i => n - (intOf i).toNat)
  case atStart => exact ⟨0, Nat.zero_le _, rfl, fun j h => by omega⟩
  case round =>
    obtain ⟨k, hk, rfl, hno⟩ := hrel
    by_cases hltk : k < n
    focus
      have d0 := HA.out k hltk
      have HYk := Lib.hid (fun h => HY.out k hltk h)
      have hnew : Hid (l.getD k 0 ≠ d → ∀ j, j < k + 1 → l.getD j 0 ≠ d) := fun h j hj => by
        rcases Nat.lt_or_ge j k with g | g
        · exact hno.out j g
        · obtain rfl : j = k := by omega
          exact h
      obtain ⟨x, hx⟩ : ∃ x, x = l.getD k 0 := ⟨_, rfl⟩
      rw [← hx] at d0 HYk hnew
      clear hx hno
      by_cases hxd : x = d
      focus
        have HR := Lib.hid (HYk.out hxd)
        subst hxd
        clear HYk hnew
        go_wp2
        go_ret
        exact ⟨ret_boolS HR.out.symm, rfl⟩
      have HS := Lib.hid (hnew.out hxd)
      have g1 : (x == d) = false := beq_eq_false_iff_ne.2 hxd
      clear HYk hnew
      go_wp2
      go_round
      case rel => exact ⟨k + 1, by omega, by go_num, HS⟩
      case measure => simp [intOf]; omega
    have HR := Lib.hid (HN.out (fun j hj => hno.out j (by omega)))
    go_wp2
    go_ret
    exact ⟨ret_boolS HR.out.symm, rfl⟩
end Go.Proofs.YtfoncmeplofedaqGreatDoor

namespace Go.Proofs.YtfoncmeplofedaqGreatDoor
open Go.RowKit
set_option linter.unusedVariables false
theorem meth_number (x : Array Value) (w : World) : (method 291 67 (.agg x) "loop.example/g00260/impl.number").run Tryz.prog w = .ok (87, .agg x) w := by kernel_rfl
theorem blNumber_any (d : Int) (t : ByteArray) (w : World) :
    Calls Tryz.prog 87 #[.agg #[.int .i64 d, .string t]] w fun e w' => e = .returned (.int .i64 d) ∧ Below w.heap.size w w' := by
  have hb := (Below.refl w.heap.size w).alloc (Nat.le_refl _) (.cells #[.int .i64 d, .string t] 67)
  go_enter Tryz.func87, Tryz.ntmps87
  go_wp2
  go_ret
  exact ⟨rfl, hb⟩
def wrongB (p : Bl) : Bool := decide (2000 < p.2.size) || !(decide (digest p.2 = p.1))
theorem blWrong_any (d : Int) (t : ByteArray) (w : World) (ht : t.size ≤ 9223372036854775807) :
    Calls Tryz.prog 73 #[.agg #[.int .i64 d, .string t]] w fun e w' => e = .returned (.bool (wrongB (d, t))) ∧ Below w.heap.size w w' := by
  have hb := (Below.refl w.heap.size w).alloc (Nat.le_refl _) (.cells #[.int .i64 d, .string t] 67)
  have HC := fun W => implDigest_any t W ht
  by_cases h : 2000 < t.size
  · have e : wrongB (d, t) = true := by unfold wrongB; simp [h]
    rw [e]
    have hI : (2000 : Int) < (t.size : Int) := by omega
    have g1 : decide ((2000 : Int) < (t.size : Int)) = true := decide_eq_true hI
    clear e
    go_enter Tryz.func73, Tryz.ntmps73
    go_wp2
    go_quiet (fail)
    go_wp2
    go_ret
    exact ⟨rfl, by first | exact hb | exact below_drewN hb _⟩
  · have hI : ¬ (2000 : Int) < (t.size : Int) := by omega
    obtain ⟨dg, hdg⟩ : ∃ dg, dg = digest t := ⟨_, rfl⟩
    have HX : Hid (digest t = dg) := hdg.symm
    have e : wrongB (d, t) = (dg != d) := by unfold wrongB; rw [hdg]; by_cases hd : digest t = d <;> simp [h, hd]
    rw [e]
    clear e hdg
    go_enter Tryz.func73, Tryz.ntmps73
    go_wp2
    have g1 : decide ((2000 : Int) < (t.size : Int)) = false := decide_eq_false (by omega)
    go_quiet (first | (go_at_call 60; refine (HC _).mono ?_; rintro e w8 ⟨rfl, rfl⟩; rw [HX.out]; exact ⟨rfl, ⟨_, rfl⟩⟩))
    go_wp2
    go_ret
    exact ⟨rfl, by first | exact hb | exact below_drewN hb _⟩
end Go.Proofs.YtfoncmeplofedaqGreatDoor
