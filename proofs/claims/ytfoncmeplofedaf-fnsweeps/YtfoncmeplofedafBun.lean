/- The basic texts of this claim as one: rows, blobs, digests, readers. (Written by bundle.py.) -/
import Derived.WalkKit
import Derived.OwnWalk
import Derived.Below
import Derived.WalkSmall
import Derived.Test.YtfoncmeplofedafRows
import Derived.WalkLawsBesides
import Derived.BigRegion
import Derived.Laws.IdiomStrings
import Derived.Laws.ResultCell
import Derived.OneCell
import Derived.Outline
import Derived.Deep.QuietTactic
import Derived.BigQuiet
import Derived.Lib.Hide
import Derived.Maps.AppendAt
import Derived.Deep.Upon
import Derived.Lib.AppendZeros
import Derived.Maps.OwnSet
import Derived.Maps.Views
import Derived.Deep.RegionWith
import Derived.Deep.RegionHeld
import Derived.Deep.LoopGhost
import Derived.Deep.MidRow
import Derived.Deep.RegionLaw
namespace Go.Proofs.Ytfoncmeplofedaf
open Go.RowKit

theorem owns_base {w : World} {b b' : Nat} {e : TypeId} {size : Nat} {v : Value} {n : Nat} {xs : List Value} (h : w.ownsRow b e size v n xs) (hb : b' ≤ b) : w.ownsRow b' e size v n xs := by
  obtain ⟨h1, h2⟩ := h
  refine ⟨h1, ?_⟩
  rcases h2 with h2 | ⟨g, cap, cur, hv, hg, r⟩
  · exact .inl h2
  · exact .inr ⟨g, cap, cur, hv, by omega, r⟩

theorem grown_of_below {w w' : World} (h : Below w.heap.size w w') : w.grownBy w' none := ⟨h.os, h.tape, h.output, h.size, fun k hk _ => h.block k hk⟩

/-- what is owned stays owned where no old block turns -/
theorem owns_below {w w' : World} {b : Nat} {e : TypeId} {size : Nat} {v : Value} {n : Nat} {xs : List Value} (h : w.ownsRow b e size v n xs) (hb : Below w.heap.size w w') : w'.ownsRow b e size v n xs :=
  h.kept (grown_of_below hb) (by cases v.ownBlock <;> simp)

theorem grown_trans {a w w' : World} {row : Option Nat} (h : a.grownBy w row) (k : w.grownBy w' row) : a.grownBy w' row :=
  ⟨k.os.trans h.os, k.tape.trans h.tape, k.output.trans h.output, Nat.le_trans h.size k.size, fun i hi hr => (k.block i (Nat.lt_of_lt_of_le hi h.size) hr).trans (h.block i hi hr)⟩

theorem grown_drew {w w' : World} {row : Option Nat} (h : w.grownBy w' row) : w.grownBy w'.drew row := ⟨h.os, h.tape, h.output, h.size, h.block⟩

/-- what is owned stays owned where one other row is written -/
theorem owns_grown {w w' : World} {b : Nat} {e : TypeId} {size : Nat} {v : Value} {n : Nat} {xs : List Value} {row : Option Nat} (h : w.ownsRow b e size v n xs) (hb : w.grownBy w' row) (hne : ∀ k, row = some k → v.ownBlock ≠ some k) : w'.ownsRow b e size v n xs :=
  h.kept hb (by
    cases hv : v.ownBlock with
    | none => exact .inl rfl
    | some g => right; intro e'; exact hne g e'.symm hv)

/-- A SLICE WHOSE ELEMENTS, one cell each, CAN BE READ. -/
def Rd (w : World) (v : Value) (xs : List Value) : Prop :=
  ∃ ao cap, v = .slice ao xs.length cap ∧ xs.length ≤ cap ∧ (xs ≠ [] → ∃ b off, ao = some ⟨b, off, none⟩ ∧ b < w.heap.size ∧ ∀ j, j < xs.length → w.cell? ⟨b, off + j, none⟩ = xs[j]?)

theorem rd_owns {w : World} {b : Nat} {e : TypeId} {v : Value} {n : Nat} {xs : List Value} (h : w.ownsRow b e 1 v n xs) : Rd w v xs := by
  have hl := h.1
  rcases h.2 with ⟨rfl, rfl⟩ | ⟨g, cap, cur, rfl, hg, hh, hn, hm, hs, ht⟩
  · obtain rfl : xs = [] := List.eq_nil_of_length_eq_zero (by omega)
    exact ⟨none, 0, rfl, Nat.le_refl _, fun h => absurd rfl h⟩
  · obtain rfl : n = xs.length := by omega
    refine ⟨_, cap, rfl, hn, fun _ => ⟨g, 0, rfl, (Array.getElem?_eq_some_iff.1 hh).1, fun j hj => ?_⟩⟩
    rw [Nat.zero_add]
    exact h.cellAt j (by omega)

theorem rd_below {w w' : World} {v : Value} {xs : List Value} (h : Rd w v xs) (hb : Below w.heap.size w w') : Rd w' v xs := by
  obtain ⟨ao, cap, hv, hcap, hx⟩ := h
  refine ⟨ao, cap, hv, hcap, fun hne => ?_⟩
  obtain ⟨b, off, ha, hlt, hc⟩ := hx hne
  exact ⟨b, off, ha, Nat.lt_of_lt_of_le hlt hb.size, fun j hj => (hb.cell (p := ⟨b, off + j, none⟩) hlt).trans (hc j hj)⟩

/-- below a number of blocks that is at most the heap's -/
theorem rd_below' {B : Nat} {w w' : World} {v : Value} {xs : List Value} (h : Rd w v xs) (hb : Below B w w') (hB : w.heap.size ≤ B) : Rd w' v xs := rd_below h (hb.mono hB)

/-- THE WALK's VIEW OF IT: either there is nothing, or the cells lie at b, off. -/
theorem rd_cases {w : World} {v : Value} {xs : List Value} (h : Rd w v xs) :
    (xs = [] ∧ ∃ ao cap, v = .slice ao 0 cap) ∨ (0 < xs.length ∧ ∃ b off cap, v = .slice (some ⟨b, off, none⟩) xs.length cap ∧ xs.length ≤ cap ∧ b < w.heap.size ∧ ∀ j, j < xs.length → w.cell? ⟨b, off + j, none⟩ = xs[j]?) := by
  obtain ⟨ao, cap, hv, hcap, hx⟩ := h
  cases xs with
  | nil => exact .inl ⟨rfl, ao, cap, hv⟩
  | cons x r =>
    obtain ⟨b, off, rfl, hlt, hc⟩ := hx (by simp)
    exact .inr ⟨by simp, b, off, cap, hv, hcap, hlt, hc⟩

/-- a list of numbers as cells -/
theorem ints_get (k : IntKind) (zs : List Int) (j : Nat) (h : j < zs.length) : (zs.map (Value.int k))[j]? = some (.int k (zs.getD j 0)) := by
  simp [List.getD, h]

theorem take_snoc {α : Type} (zs : List α) (d : α) (k : Nat) (hk : k < zs.length) : zs.take (k + 1) = zs.take k ++ [zs.getD k d] := by
  rw [List.take_add_one, List.getElem?_eq_getElem hk, List.getD, List.getElem?_eq_getElem hk]; rfl

abbrev cellsByteS (xs : List Int) : List Value := xs.map (Value.int .u8)
abbrev cellsInt64S (xs : List Int) : List Value := xs.map (Value.int .i64)
abbrev cellsS (xs : List ByteArray) : List Value := xs.map Value.string
theorem strs_get (zs : List ByteArray) (j : Nat) (h : j < zs.length) : (zs.map Value.string)[j]? = some (.string (zs.getD j ByteArray.empty)) := by
  simp [List.getD, h]

/-- w' is w but for the block cb and what is new, w1 grows out of w' writing a row of its own -/
theorem grown_own {w wr w' : World} {cb : Nat} {row : Option Nat} (h : w.grownBy wr (some cb)) (k : wr.grownBy w' row) (hr : ∀ g, row = some g → w.heap.size ≤ g) : w.grownBy w' (some cb) :=
  ⟨k.os.trans h.os, k.tape.trans h.tape, k.output.trans h.output, Nat.le_trans h.size k.size, fun i hi hne => (k.block i (Nat.lt_of_lt_of_le hi h.size) (fun e => by have := hr i e.symm; omega)).trans (h.block i hi hne)⟩
theorem grown_below {w wr w' : World} {cb : Nat} (h : w.grownBy wr (some cb)) (k : Below wr.heap.size wr w') : w.grownBy w' (some cb) := grown_own h (grown_of_below k) (fun g hg => by cases hg)

/-- an owned row that is not empty lies at the head of a block -/
theorem owns_head {w : World} {base : Nat} {e : TypeId} {v : Value} {n : Nat} {xs : List Value} (h : w.ownsRow base e 1 v n xs) (hp : 0 < n) : ∃ g cap, v = .slice (some ⟨g, 0, none⟩) n cap ∧ v.ownBlock = some g := by
  rcases h.2 with ⟨_, h0⟩ | ⟨g, cap, cur, rfl, _⟩
  · omega
  · exact ⟨g, cap, rfl, rfl⟩

theorem owns_slice {w : World} {base : Nat} {e : TypeId} {v : Value} {n : Nat} {xs : List Value} (h : w.ownsRow base e 1 v n xs) : ∃ ao cap, v = .slice ao n cap := by
  rcases h.2 with ⟨rfl, rfl⟩ | ⟨g, cap, cur, rfl, _⟩
  · exact ⟨none, 0, rfl⟩
  · exact ⟨_, cap, rfl⟩

theorem own_new {w wr : World} (hb : Below w.heap.size w wr) (e : TypeId) : (wr.alloc (.cells #[] e)).ownsRow w.heap.size e 1 (.slice (some ⟨wr.heap.size, 0, none⟩) 0 0) 0 [] :=
  World.ownsRow_lit wr #[] 0 hb.size (Nat.zero_le _) rfl

theorem ret_int {k : IntKind} {a b : Int} (h : a = b) : Ending.returned (.int k a) = .returned (.int k b) := by rw [h]

end Go.Proofs.Ytfoncmeplofedaf

namespace Go.Proofs.Ytfoncmeplofedaf
open Go.RowKit

theorem Try.infoB : (Try.prog.info? 5).map (fun i => (i.zero, i.size, i.bytes)) = some (some (.int .u8 0), 1, 1) := by kernel_rfl
theorem Try.info64 : (Try.prog.info? 2).map (fun i => (i.zero, i.size, i.bytes)) = some (some (.int .i64 0), 1, 8) := by kernel_rfl
theorem Try.infoS : (Try.prog.info? 9).map (fun i => (i.zero, i.size, i.bytes)) = some (some (.string ⟨#[]⟩), 1, 16) := by kernel_rfl
theorem one_cell (w : World) (k : IntKind) (z : Int) (t : TypeId) : ∀ j u, ([Value.int k z] : List Value)[j]? = some u → (w.alloc (.cells #[Value.int k z] t)).cell? ((⟨w.heap.size, 0, none⟩ : Addr).add j) = some u := by
  intro j u hj
  match j, hj with
  | 0, hj => simp at hj; subst hj; simp [Addr.add]

theorem drop_getD (L : List Int) (j : Nat) (h : j < L.length) : L.drop j = L.getD j 0 :: L.drop (j + 1) := by
  rw [List.drop_eq_getElem_cons h]; simp [List.getD, h]

/-- a string's bytes as numbers -/
def byts (s : ByteArray) : List Int := s.data.toList.map fun b => (b.toNat : Int)
theorem byts_len (s : ByteArray) : (byts s).length = s.size := by simp [byts]

theorem byts_get (s : ByteArray) (j : Nat) (h : j < s.data.size) : (byts s).getD j 0 = (s.data[j].toNat : Int) := by
  have h' : j < s.data.toList.length := h
  rw [List.getD, byts, List.getElem?_map, List.getElem?_eq_getElem h']
  rfl

theorem conv_cells (w : World) (t : ByteArray) (cap : Nat) (E : TypeId) (fr : Nat × Nat) : ∀ j, j < t.size → ((w.alloc (.cells (bytesRow t cap) E fr)).drew.drew).cell? ⟨w.heap.size, j, none⟩ = some (.int .u8 ((byts t).getD j 0)) := by
  intro j hj
  rw [byts_get t j hj]
  exact (World.cell?_alloc_mark w _ E fr j).trans (bytesRow_at t cap j hj)

theorem byts_range (t : ByteArray) (j : Nat) : 0 ≤ (byts t).getD j 0 ∧ (byts t).getD j 0 ≤ 255 := by
  by_cases h : j < t.data.size
  · rw [byts_get t j h]
    have := t.data[j].toNat_lt
    omega
  · have e : (byts t).getD j 0 = 0 := by
      rw [List.getD, List.getElem?_eq_none (by rw [byts_len]; exact Nat.le_of_not_lt h)]; rfl
    omega

def Bytes (zs : List Int) : Prop := ∀ x ∈ zs, 0 ≤ x ∧ x ≤ 255
theorem bytes_get {zs : List Int} (h : Bytes zs) (j : Nat) : 0 ≤ zs.getD j 0 ∧ zs.getD j 0 ≤ 255 := by
  by_cases hj : j < zs.length
  · have e : zs.getD j 0 = zs[j] := by simp [List.getD, hj]
    rw [e]; exact h _ (List.getElem_mem hj)
  · have e : zs.getD j 0 = 0 := by rw [List.getD, List.getElem?_eq_none (Nat.le_of_not_lt hj)]; rfl
    omega

theorem take_getD (zs : List Int) (n j : Nat) (h : j < n) : (zs.take n).getD j 0 = zs.getD j 0 := by
  simp [List.getD, h]

/-- numbers as a string's bytes -/
def asB (zs : List Int) : ByteArray := ⟨(zs.map fun z => UInt8.ofNat z.toNat).toArray⟩
theorem asB_size (zs : List Int) : (asB zs).size = zs.length := by simp [asB, ByteArray.size]
theorem asB_byts (zs : List Int) (h : Bytes zs) : byts (asB zs) = zs := by
  unfold byts asB
  simp only [List.map_map]
  conv => rhs; rw [← List.map_id zs]
  apply List.map_congr_left
  intro x hx
  have := h x hx
  simp only [Function.comp, id]
  show ((UInt8.ofNat x.toNat).toNat : Int) = x
  rw [UInt8.toNat_ofNat_of_lt' (show x.toNat < UInt8.size by have : UInt8.size = 256 := rfl; omega)]
  omega
theorem bytes_take {zs : List Int} (h : Bytes zs) (n : Nat) : Bytes (zs.take n) := fun x hx => h x (List.mem_of_mem_take hx)

/-- 'string(b[:k])' where b's cells are the bytes zs -/
theorem str_of (w : World) (b off cap k : Nat) (zs : List Int) (hz : Bytes zs) (hk : k ≤ zs.length)
    (hc : ∀ j, j < zs.length → w.cell? ⟨b, off + j, none⟩ = some (.int .u8 (zs.getD j 0))) :
    (convert 22 9 (.slice (some ⟨b, off, none⟩) k cap)).run Try.prog w = .ok (.string (asB (zs.take k))) w := by
  have h := run_convert_bytes_back (P := Try.prog) w 22 9 5 ⟨b, off, none⟩ cap ((zs.take k).map fun z => UInt8.ofNat z.toNat) Try.underlying22 Try.underlying5 Try.underlying9 (by
    intro j hj
    have hj' : j < k := by
      have h := hj
      rw [List.length_map, List.length_take] at h
      omega
    have e : (⟨b, off, none⟩ : Addr).add j = ⟨b, off + j, none⟩ := Addr.add_lit ..
    rw [e, hc j (by omega)]
    have hx := bytes_get hz j
    have e2 : zs[j]'(by omega) = zs.getD j 0 := by simp [List.getD, show j < zs.length by omega]
    simp only [List.getElem_map, List.getElem_take]
    rw [e2, UInt8.toNat_ofNat_of_lt' (show (zs.getD j 0).toNat < UInt8.size by have : UInt8.size = 256 := rfl; omega)]
    congr 2
    omega)
  have e3 : ((zs.take k).map fun z => UInt8.ofNat z.toNat).length = k := by simp; omega
  rw [e3] at h
  exact h

theorem str_nil (w : World) (ao : Option Addr) (cap : Nat) : (convert 22 9 (.slice ao 0 cap)).run Try.prog w = .ok (.string (asB [])) w := by
  cases ao with
  | some a => exact run_convert_bytes_back (P := Try.prog) w 22 9 5 a cap [] Try.underlying22 Try.underlying5 Try.underlying9 (by intro j hj; simp at hj)
  | none =>
    rw [run_convert_bytes_string w 22 9 5 none 0 cap Try.underlying22 Try.underlying5 Try.underlying9]
    rfl

theorem asB_nil : asB [] = ⟨#[]⟩ := rfl

theorem bytes_append {a b : List Int} (ha : Bytes a) (hb : Bytes b) : Bytes (a ++ b) := fun x hx => by
  rcases List.mem_append.1 hx with h | h
  · exact ha x h
  · exact hb x h
/-- 'string(row)' of an owned row of bytes -/
theorem str_own {w : World} {base : Nat} {v : Value} {zs : List Int} (h : w.ownsRow base 5 1 v zs.length (cellsByteS zs)) (hz : Bytes zs) :
    (convert 22 9 v).run Try.prog w = .ok (.string (asB zs)) w := by
  rcases rd_cases (rd_owns h) with ⟨h0, ao, cap, rfl⟩ | ⟨hp, b, off, cap, rfl, hcap, hlt, hc⟩
  · have hx : zs = [] := by simpa using h0
    subst hx
    exact str_nil w ao cap
  · have hla : (cellsByteS zs).length = zs.length := by simp
    rw [hla] at hc ⊢
    have hs := str_of w b off cap zs.length zs hz (Nat.le_refl _) (fun j hj => (hc j hj).trans (ints_get _ zs j hj))
    rwa [List.take_of_length_le (Nat.le_refl _)] at hs

/-- 'data[p:]' of a slice of bytes that can be read -/
theorem slice_from (b off n cap p : Nat) (hp : p ≤ n) (hc : n ≤ cap) : ∃ ao cap', n - p ≤ cap' ∧ (p < n → ao = some ⟨b, off + p, none⟩) ∧
    ∀ W : World, (Instr.slice 22 (.slice (some ⟨b, off, none⟩) n cap) (some (.int .i64 (p : Int))) none none).run Try.prog W = .ok (.slice ao (n - p) cap') W := by
  obtain ⟨i0, hi, hz0, hz1, hz2⟩ := info_parts Try.infoB
  have hel : Try.prog.elem 22 = 5 := by kernel_rfl
  have hsz : ∀ W : World, (sizeOf 5).run Try.prog W = .ok 1 W := fun W => by simp [sizeOf, typeInfo, hi, hz1]
  by_cases hcp : cap = p
  · refine ⟨some ⟨b, off, none⟩, cap - p, by omega, fun h => by omega, fun W => ?_⟩
    rw [run_slice_l W 22 _ n cap (by rw [hel]; exact Try.underlying22) .i64 _ (by omega) (by omega), hel, hsz]
    simp [Result.andThen, sliced, hcp]
  · refine ⟨some ⟨b, off + p, none⟩, cap - p, by omega, fun _ => rfl, fun W => ?_⟩
    rw [run_slice_l W 22 _ n cap (by rw [hel]; exact Try.underlying22) .i64 _ (by omega) (by omega), hel, hsz]
    simp [Result.andThen, sliced, hcp]
    exact Addr.add_lit ..

/-- '[]byte(s)' can be read -/
theorem rd_conv {w : World} {s : ByteArray} {cap : Nat} (hcap : s.size ≤ cap) (fr : Nat × Nat) :
    Rd (w.drew.alloc (.cells (bytesRow s cap) 5 fr)) (.slice (some ⟨w.heap.size, 0, none⟩) s.size cap) (cellsByteS (byts s)) := by
  have hla : (cellsByteS (byts s)).length = s.size := by rw [cellsByteS, List.length_map, byts_len]
  refine ⟨_, cap, by rw [hla], by rw [hla]; exact hcap, fun _ => ⟨w.heap.size, 0, rfl, by simp, fun j hj => ?_⟩⟩
  rw [hla] at hj
  rw [Nat.zero_add, ints_get _ _ j (by rw [byts_len]; exact hj)]
  exact conv_cells w s cap 5 fr j hj

theorem byts_bytes (s : ByteArray) : Bytes (byts s) := fun x hx => by
  obtain ⟨b, _, rfl⟩ := List.mem_map.1 hx
  have := b.toNat_lt
  omega
theorem bytes_drop {zs : List Int} (h : Bytes zs) (n : Nat) : Bytes (zs.drop n) := fun x hx => h x (List.mem_of_mem_drop hx)

/-- a cut of what can be read -/
theorem rd_cut {w : World} {b off n cap p : Nat} {zs : List Int} (h : Rd w (.slice (some ⟨b, off, none⟩) n cap) (cellsByteS zs)) (hn : zs.length = n) {ao : Option Addr} {cap' : Nat} (hc : n - p ≤ cap') (ha : p < n → ao = some ⟨b, off + p, none⟩) (hp : p ≤ n) :
    Rd w (.slice ao (n - p) cap') (cellsByteS (zs.drop p)) := by
  have hla : (cellsByteS (zs.drop p)).length = n - p := by simp; omega
  refine ⟨ao, cap', by rw [hla], by rw [hla]; exact hc, fun hne => ?_⟩
  have hpn : p < n := by
    by_cases hpn : p < n
    · exact hpn
    · exfalso; apply hne; rw [List.drop_of_length_le (by omega)]; rfl
  obtain ⟨ao', cap2, he, _, hx⟩ := h
  simp only [Value.slice.injEq] at he
  obtain ⟨rfl, _, _⟩ := he
  obtain ⟨b', off', hab, hlt, hcell⟩ := hx (by
    intro h0
    have : zs.length = 0 := by simpa using congrArg List.length h0
    omega)
  simp only [Option.some.injEq, Addr.mk.injEq, and_true] at hab
  obtain ⟨rfl, rfl⟩ := hab
  refine ⟨b, off + p, ha hpn, hlt, fun j hj => ?_⟩
  rw [hla] at hj
  rw [Nat.add_assoc, hcell (p + j) (by simp; omega)]
  simp [List.getElem?_drop]

end Go.Proofs.Ytfoncmeplofedaf

namespace Go.Proofs.Ytfoncmeplofedaf
open Go.RowKit
set_option linter.unusedVariables false
/-- each element has so many cells, each of them one cell -/
structure Wid {α : Type} (f : α → List Value) (k : Nat) : Prop where
  pos : 0 < k
  len : ∀ x, (f x).length = k
  one : ∀ x, ∀ u ∈ f x, u.oneCell' = true
def rowC {α : Type} (f : α → List Value) (l : List α) : List Value := l.flatMap f
section
variable {α : Type} {f : α → List Value} {k : Nat}
theorem rowC_nil : rowC f [] = [] := rfl
theorem rowC_cons (p : α) (l : List α) : rowC f (p :: l) = f p ++ rowC f l := rfl
theorem rowC_append (l m : List α) : rowC f (l ++ m) = rowC f l ++ rowC f m := by unfold rowC; rw [List.flatMap_append]
theorem rowC_len (hf : Wid f k) (l : List α) : (rowC f l).length = l.length * k := by
  induction l with
  | nil => simp [rowC]
  | cons p t ih => rw [rowC_cons, List.length_append, hf.len, ih, List.length_cons, Nat.succ_mul]; omega
theorem rowC_one (hf : Wid f k) (l : List α) : ∀ u ∈ rowC f l, u.oneCell' = true := by
  intro u hu
  obtain ⟨p, _, h⟩ := List.mem_flatMap.1 hu
  exact hf.one p u h
theorem rowC_get (hf : Wid f k) : ∀ (l : List α) (i : Nat) (h : i < l.length) (j : Nat), j < k → (rowC f l)[i * k + j]? = (f l[i])[j]?
  | p :: t, 0, _, j, hj => by
    rw [rowC_cons, Nat.zero_mul, Nat.zero_add, List.getElem?_append_left (by rw [hf.len]; exact hj)]
    rfl
  | p :: t, i + 1, h, j, hj => by
    have e := rowC_get hf t i (by simpa using h) j hj
    rw [rowC_cons, List.getElem?_append_right (by rw [hf.len, Nat.succ_mul]; omega), hf.len, show (i + 1) * k + j - k = i * k + j by rw [Nat.succ_mul]; omega, e]
    rfl
theorem rowC_set (hf : Wid f k) : ∀ (l : List α) (i : Nat) (h : i < l.length) (j : Nat) (u : Value) (y : α), j < k → f y = (f l[i]).set j u → (rowC f l).set (i * k + j) u = rowC f (l.set i y)
  | p :: t, 0, _, j, u, y, hj, hy => by
    rw [List.set_cons_zero, rowC_cons, rowC_cons, hy, Nat.zero_mul, Nat.zero_add, List.set_append_left _ _ (by rw [hf.len]; exact hj)]
    rfl
  | p :: t, i + 1, h, j, u, y, hj, hy => by
    have e := rowC_set hf t i (by simpa using h) j u y hj hy
    rw [List.set_cons_succ, rowC_cons, rowC_cons, List.set_append_right _ _ (by rw [hf.len, Nat.succ_mul]; omega), hf.len, show (i + 1) * k + j - k = i * k + j by rw [Nat.succ_mul]; omega, e]
theorem rowC_take (hf : Wid f k) (l : List α) (m : Nat) (hm : m ≤ l.length) : (rowC f l).take (m * k) = rowC f (l.take m) := by
  have e : rowC f l = rowC f (l.take m) ++ rowC f (l.drop m) := by rw [← rowC_append, List.take_append_drop]
  have hle : (rowC f (l.take m)).length = m * k := by rw [rowC_len hf, List.length_take, Nat.min_eq_left hm]
  rw [e, ← hle, List.take_left]
theorem rowC_drop (hf : Wid f k) (l : List α) (m : Nat) (hm : m ≤ l.length) : (rowC f l).drop (m * k) = rowC f (l.drop m) := by
  have e : rowC f l = rowC f (l.take m) ++ rowC f (l.drop m) := by rw [← rowC_append, List.take_append_drop]
  have hle : (rowC f (l.take m)).length = m * k := by rw [rowC_len hf, List.length_take, Nat.min_eq_left hm]
  rw [e, ← hle, List.drop_left]
/-- the elements' cells lie at b, off -/
def CellsG (f : α → List Value) (k b off : Nat) (l : List α) (w : World) : Prop := ∀ (i : Nat) (h : i < l.length) (j : Nat) (u : Value), (f l[i])[j]? = some u → w.cell? ⟨b, off + i * k + j, none⟩ = some u
theorem cellsG_below {b off : Nat} {l : List α} {w w' : World} (h : CellsG f k b off l w) (hlt : b < w.heap.size) (hb : Below w.heap.size w w') : CellsG f k b off l w' :=
  fun i hi j u hu => (hb.cell (p := ⟨b, off + i * k + j, none⟩) hlt).trans (h i hi j u hu)
theorem cellsG_at (hf : Wid f k) {b off : Nat} {l : List α} {w : World} (h : CellsG f k b off l w) : ∀ j u, (rowC f l)[j]? = some u → w.cell? (Addr.add ⟨b, off, none⟩ j) = some u := by
  intro j u hu
  have hj := (List.getElem?_eq_some_iff.1 hu).1
  rw [rowC_len hf] at hj
  have hd := Nat.div_add_mod j k
  have hm := Nat.mod_lt j hf.pos
  have hi : j / k < l.length := Nat.div_lt_of_lt_mul (by rw [Nat.mul_comm]; exact hj)
  have e : j / k * k + j % k = j := by rw [Nat.mul_comm]; exact hd
  have hg := rowC_get hf l (j / k) hi (j % k) hm
  rw [e, hu] at hg
  have h9 := h (j / k) hi (j % k) u hg.symm
  rw [Nat.add_assoc, e] at h9
  rw [Addr.add_lit]
  exact h9
/-- a slice of structs that can be read -/
def RdG (f : α → List Value) (k : Nat) (w : World) (v : Value) (l : List α) : Prop :=
  ∃ ao cap, v = .slice ao l.length cap ∧ l.length ≤ cap ∧ (l ≠ [] → ∃ b off, ao = some ⟨b, off, none⟩ ∧ b < w.heap.size ∧ CellsG f k b off l w)
abbrev OwnG (f : α → List Value) (k : Nat) (e : TypeId) (w : World) (B : Nat) (v : Value) (l : List α) : Prop := w.ownsRow B e k v l.length (rowC f l)
theorem rdG_below {w w' : World} {v : Value} {l : List α} (h : RdG f k w v l) (hb : Below w.heap.size w w') : RdG f k w' v l := by
  obtain ⟨ao, cap, hv, hcap, hx⟩ := h
  refine ⟨ao, cap, hv, hcap, fun hne => ?_⟩
  obtain ⟨b, off, ha, hlt, hc⟩ := hx hne
  exact ⟨b, off, ha, Nat.lt_of_lt_of_le hlt hb.size, cellsG_below hc hlt hb⟩
theorem cellsG_own (hf : Wid f k) {w : World} {B : Nat} {e : TypeId} {g cap : Nat} {l : List α} (h : w.ownsRow B e k (.slice (some ⟨g, 0, none⟩) l.length cap) l.length (rowC f l)) : CellsG f k g 0 l w := by
  intro i hi j u hu
  have hj : j < k := by have h9 := (List.getElem?_eq_some_iff.1 hu).1; rwa [hf.len] at h9
  have hg := rowC_get hf l i hi j hj
  rw [Nat.zero_add, ← hu, ← hg]
  have hlt : i * k + j < l.length * k := by
    have : (i + 1) * k ≤ l.length * k := Nat.mul_le_mul_right k hi
    rw [Nat.succ_mul] at this
    omega
  exact h.cellAt (i * k + j) hlt
theorem rdG_owns (hf : Wid f k) {w : World} {B : Nat} {e : TypeId} {v : Value} {l : List α} (h : OwnG f k e w B v l) : RdG f k w v l := by
  have hw0 := h
  rcases h.2 with ⟨rfl, h0⟩ | ⟨g, cap, cur, rfl, hg, hh, hn, hm, hs, ht⟩
  · obtain rfl : l = [] := List.eq_nil_of_length_eq_zero h0
    exact ⟨none, 0, rfl, Nat.le_refl _, fun h => absurd rfl h⟩
  · exact ⟨_, cap, rfl, hn, fun _ => ⟨g, 0, rfl, (Array.getElem?_eq_some_iff.1 hh).1, cellsG_own hf hw0⟩⟩
/-- the walk's view of it -/
theorem rdG_cases {w : World} {v : Value} {l : List α} (h : RdG f k w v l) :
    (l = [] ∧ ∃ ao cap, v = .slice ao 0 cap) ∨ (0 < l.length ∧ ∃ b off cap, v = .slice (some ⟨b, off, none⟩) l.length cap ∧ l.length ≤ cap ∧ b < w.heap.size ∧ CellsG f k b off l w) := by
  obtain ⟨ao, cap, hv, hcap, hx⟩ := h
  by_cases h0 : l = []
  · subst h0
    exact Or.inl ⟨rfl, ao, cap, hv⟩
  · obtain ⟨b, off, rfl, h2, h3⟩ := hx h0
    exact Or.inr ⟨List.length_pos_iff.2 h0, b, off, cap, hv, hcap, h2, h3⟩
theorem rdG_shape {w : World} {v : Value} {l : List α} (h : RdG f k w v l) : ∃ ao cap, v = .slice ao l.length cap := by
  obtain ⟨ao, cap, hv, _⟩ := h
  exact ⟨ao, cap, hv⟩
theorem ownG_shape {w : World} {B : Nat} {e : TypeId} {v : Value} {l : List α} (h : OwnG f k e w B v l) : ∃ ao cap, v = .slice ao l.length cap := by
  rcases h.2 with ⟨rfl, h0⟩ | ⟨g, cap, cur, rfl, _⟩
  · exact ⟨none, 0, by rw [h0]⟩
  · exact ⟨_, cap, rfl⟩
/-- an owned row at its block -/
theorem ownG_cases (hf : Wid f k) {w : World} {B : Nat} {e : TypeId} {v : Value} {l : List α} (h : OwnG f k e w B v l) :
    (l = [] ∧ v = .slice none 0 0) ∨ ∃ g cap cur, v = .slice (some ⟨g, 0, none⟩) l.length cap ∧ B ≤ g ∧ g < w.heap.size ∧ l.length ≤ cap ∧ cap ≤ maxLen ∧ w.heap[g]? = some (.cells cur e (0, 0)) ∧ cur.size = cap * k ∧ cur.toList.take (l.length * k) = rowC f l ∧ CellsG f k g 0 l w := by
  have h0 := h
  rcases h.2 with ⟨h1, h2⟩ | ⟨g, cap, cur, rfl, hg, hh, hn, hm, hs, ht⟩
  · exact Or.inl ⟨List.eq_nil_of_length_eq_zero h2, h1⟩
  · exact Or.inr ⟨g, cap, cur, rfl, hg, (Array.getElem?_eq_some_iff.1 hh).1, hn, hm, hh, hs, ht, cellsG_own hf h0⟩
theorem ownG_nil (w : World) (B : Nat) (e : TypeId) : OwnG f k e w B (.slice none 0 0) [] := ⟨by simp [rowC], Or.inl ⟨rfl, rfl⟩⟩
/-- one element, as append's argument -/
theorem rdG_one (hf : Wid f k) (w : World) (x : α) (e : TypeId) : RdG f k (w.alloc (.cells (f x).toArray e)) (.slice (some ⟨w.heap.size, 0, none⟩) 1 1) [x] := by
  refine ⟨_, 1, rfl, Nat.le_refl _, fun _ => ⟨_, 0, rfl, by rw [World.size_alloc]; omega, fun i hi j u hu => ?_⟩⟩
  obtain rfl : i = 0 := by simpa using hi
  rw [Nat.zero_mul, Nat.zero_add, cell_of_row _ w.heap.size j _ _ (0, 0) (heap_alloc_new w (.cells (f x).toArray e)), List.getElem?_toArray]
  exact hu
/-- the head of a row -/
theorem rdG_take {w : World} {ao : Option Addr} {n cap : Nat} {l : List α} (h : RdG f k w (.slice ao n cap) l) (m : Nat) (hm : m ≤ l.length) : RdG f k w (.slice ao m cap) (l.take m) := by
  obtain ⟨ao', cap', hv, hcap, hx⟩ := h
  simp only [Value.slice.injEq] at hv
  obtain ⟨rfl, rfl, rfl⟩ := hv
  have hl : (l.take m).length = m := by rw [List.length_take]; omega
  refine ⟨ao, cap, by rw [hl], by omega, fun hne => ?_⟩
  obtain ⟨b, off, ha, hlt, hc⟩ := hx (fun h0 => hne (by rw [h0]; simp))
  refine ⟨b, off, ha, hlt, fun i hi j u hu => ?_⟩
  rw [hl] at hi
  rw [List.getElem_take] at hu
  exact hc i (by omega) j u hu
/-- the tail of a row -/
theorem rdG_drop {w : World} {b off n cap : Nat} {l : List α} (h : RdG f k w (.slice (some ⟨b, off, none⟩) n cap) l) (m c' : Nat) (hm : m ≤ l.length) (hc' : l.length - m ≤ c') : RdG f k w (.slice (some ⟨b, off + m * k, none⟩) (n - m) c') (l.drop m) := by
  obtain ⟨ao', cap', hv, hcap, hx⟩ := h
  simp only [Value.slice.injEq] at hv
  obtain ⟨rfl, rfl, rfl⟩ := hv
  have hl : (l.drop m).length = l.length - m := List.length_drop
  refine ⟨_, c', by rw [hl], by omega, fun hne => ?_⟩
  obtain ⟨b', off', ha, hlt, hc⟩ := hx (fun h0 => hne (by rw [h0]; simp))
  simp only [Option.some.injEq, Addr.mk.injEq, and_true] at ha
  obtain ⟨rfl, rfl⟩ := ha
  refine ⟨b, off + m * k, rfl, hlt, fun i hi j u hu => ?_⟩
  rw [hl] at hi
  rw [List.getElem_drop] at hu
  have h9 := hc (m + i) (by omega) j u hu
  rw [show off + (m + i) * k + j = off + m * k + i * k + j by rw [Nat.add_mul]; omega] at h9
  exact h9
/-- what append of a row of structs is about: the type's facts -/
structure TyG (P : Program) (t e : TypeId) (k bytes : Nat) : Prop where
  und : P.underlying t = some (.slice e)
  inf : ∃ z, z.cells.size = k ∧ (P.info? e).map (fun i => (i.zero, i.size, i.bytes)) = some (some z, k, bytes)
  small : bytes ≤ 4096
theorem append_G {P : Program} {t e : TypeId} {bytes : Nat} (ht : TyG P t e k bytes) (hf : Wid f k) (w : World) (ty : TypeId) (B : Nat) (v u : Value) (xs ys : List α) (h : OwnG f k e w B v xs) (hu : RdG f k w u ys) (hl : xs.length + ys.length ≤ 16777216) (hB : B ≤ w.heap.size) :
    ∃ v' w', (Builtin.append_ #[t, t] ty #[v, u]).run P w = .ok v' w' ∧ OwnG f k e w' B v' (xs ++ ys) ∧ w.grownBy w' v.ownBlock ∧ ∀ q, v'.ownBlock = some q → v.ownBlock = some q ∨ w.heap.size ≤ q := by
  obtain ⟨z, hz, hi⟩ := ht.inf
  obtain ⟨i0, hi0, hz0, hz1, hz2⟩ := info_parts hi
  have go : ∀ (ad : Addr) (c : Nat), u = .slice (some ad) ys.length c → (∀ j x, (rowC f ys)[j]? = some x → w.cell? (ad.add j) = some x) → ∃ v' w', (Builtin.append_ #[t, t] ty #[v, u]).run P w = .ok v' w' ∧ OwnG f k e w' B v' (xs ++ ys) ∧ w.grownBy w' v.ownBlock ∧ ∀ q, v'.ownBlock = some q → v.ownBlock = some q ∨ w.heap.size ≤ q := fun ad c hv hc => by
    have hby : (xs.length + ys.length) * bytes ≤ 140737488355328 := Nat.le_trans (Nat.mul_le_mul hl ht.small) (by omega)
    obtain ⟨v', w', h1, h2, h3, _, h4⟩ := run_append_own_at (P := P) w B t ty e i0 z k bytes ht.und hi0 hz0 hz1 hz2 hz hf.pos v xs.length (rowC f xs) h ad ys.length c (rowC f ys) (rowC_len hf ys) hc (rowC_one hf ys) (by unfold maxLen; omega) hby hB
    subst hv
    rw [← rowC_append, ← List.length_append] at h2
    refine ⟨v', w', h1, h2, h3, fun q hq => ?_⟩
    rcases h4 with h4 | h4
    · exact Or.inl (h4 ▸ hq)
    · rw [hq] at h4
      exact Or.inr (by rw [Option.some.inj h4]; exact Nat.le_refl _)
  rcases rdG_cases hu with ⟨h0, ao, cap, rfl⟩ | ⟨hp, b, off, cap, rfl, _, hlt, hc⟩
  · subst h0
    cases ao with
    | some ad => exact go ad cap rfl (fun j x hx => by cases hx)
    | none =>
      rw [List.append_nil]
      have hs : Src P i0.size t (.slice none 0 cap) 0 [] w := Src.ofNil w ht.und cap
      have h9 := h
      rcases h.2 with ⟨rfl, h0⟩ | ⟨g, c, cur, rfl, hg, hh, hn, hm, hs2, htk⟩
      · exact ⟨_, w, run_append_nothing w t t ty e i0 ht.und hi0 none 0 0 (Nat.le_refl _) _ hs, h9, World.grownBy.refl _ _, fun q hq => Or.inl hq⟩
      · exact ⟨_, w, run_append_nothing w t t ty e i0 ht.und hi0 _ _ _ hn _ hs, h9, World.grownBy.refl _ _, fun q hq => Or.inl hq⟩
  · exact go ⟨b, off, none⟩ cap rfl (cellsG_at hf hc)
theorem own_stepG {P : Program} {t e : TypeId} {bytes : Nat} (ht : TyG P t e k bytes) (hf : Wid f k) {ops : Array Oper} {rest : List Oper} {o : Oper} {a : Act} {w : World} {Q : Exit → Act → World → Prop} (hgd : o.guard = none) (s x : Operand)
    (ho : o.op = .call { callee := .builtin .append, args := #[s, x], argTypes := #[t, t] })
    (B : Nat) (v u : Value) (xs ys : List α) (hs : a.eval s = v) (hx : a.eval x = u) (h : OwnG f k e w B v xs) (hu : RdG f k w u ys) (hl : xs.length + ys.length ≤ 16777216) (hB : B ≤ w.heap.size)
    (hK : ∀ v' w', OwnG f k e w' B v' (xs ++ ys) → w.grownBy w' v.ownBlock → (∀ q, v'.ownBlock = some q → v.ownBlock = some q ∨ w.heap.size ≤ q) → wpList P ops Q rest (a.put o.dst v') w') : wpList P ops Q (o :: rest) a w := by
  refine wpList_plain hgd fun K hK' => ?_
  obtain ⟨v', w', hrun, r1, r2, r3⟩ := append_G ht hf w o.type B v u xs ys h hu hl hB
  unfold Oper.wp
  simp [execOp, ho, resolve, invoke, builtin, hs, hx, hrun, Result.andThen]
  exact hK' _ _ (hK v' w' r1 r2 r3)
/-- in a drawn region -/
theorem step_ownG {P : Program} {t e : TypeId} {bytes : Nat} (ht : TyG P t e k bytes) (hf : Wid f k) {ops : Array Oper} {o : Oper} {a : Act} {w : World} {K : Act → World → Prop} {Q : Exit → Act → World → Prop} {E : Prop} (hgd : o.guard = none) (s x : Operand)
    (ho : o.op = .call { callee := .builtin .append, args := #[s, x], argTypes := #[t, t] })
    (B : Nat) (v u : Value) (xs ys : List α) (hs : a.eval s = v) (hx : a.eval x = u) (h : OwnG f k e w B v xs) (hu : RdG f k w u ys) (hl : xs.length + ys.length ≤ 16777216) (hB : B ≤ w.heap.size)
    (hK : ∀ v' w', OwnG f k e w' B v' (xs ++ ys) → w.grownBy w' v.ownBlock → (∀ q, v'.ownBlock = some q → v.ownBlock = some q ∨ w.heap.size ≤ q) → K (a.put o.dst v') w') :
    if Region.wanted o (yielded ops a.tmps) = true then Oper.wp P o a w K Q else E := by
  have hw : Region.wanted o (yielded ops a.tmps) = true := by simp [Region.wanted, hgd]
  rw [if_pos hw]
  obtain ⟨v', w', hrun, r1, r2, r3⟩ := append_G ht hf w o.type B v u xs ys h hu hl hB
  unfold Oper.wp
  simp [execOp, ho, resolve, invoke, builtin, hs, hx, hrun, Result.andThen]
  exact hK v' w' r1 r2 r3
theorem elem_G {P : Program} {t e : TypeId} {bytes : Nat} (ht : TyG P t e k bytes) : P.elem t = e := by
  unfold Program.elem
  rw [ht.und]
theorem size_G {P : Program} {t e : TypeId} {bytes : Nat} (ht : TyG P t e k bytes) (W : World) : (sizeOf e).run P W = .ok k W := by
  obtain ⟨z, hz, hi⟩ := ht.inf
  obtain ⟨i0, hi0, hz0, hz1, hz2⟩ := info_parts hi
  simp [sizeOf, typeInfo, hi0, hz1]
/-- 'list[:m]' of a row that is owned -/
theorem own_takeG {P : Program} {t e : TypeId} {bytes : Nat} (ht : TyG P t e k bytes) (hf : Wid f k) {w : World} {B : Nat} {v : Value} {xs : List α} (h : OwnG f k e w B v xs) (m : Nat) (hm : m ≤ xs.length) :
    ∃ u, (∀ W : World, (Instr.slice t v none (some (.int .i64 (m : Int))) none).run P W = .ok u W) ∧ OwnG f k e w B u (xs.take m) ∧ u.ownBlock = v.ownBlock := by
  have hl : (xs.take m).length = m := by rw [List.length_take]; omega
  rcases ownG_cases hf h with ⟨rfl, rfl⟩ | ⟨g, cap, cur, rfl, hB, hg, hc, hcm, hh, hs, htk, _⟩
  · have h0 : m = 0 := by simpa using hm
    subst h0
    refine ⟨.slice none 0 0, fun W => ?_, ownG_nil w B e, rfl⟩
    rw [run_slice_h W t _ _ 0 (by rw [elem_G ht]; exact ht.und) .i64 _ (by omega) (by omega), elem_G ht, size_G ht]
    simp [Result.andThen, sliced]
  · refine ⟨.slice (some ⟨g, 0, none⟩) m cap, fun W => ?_, ⟨by rw [rowC_len hf], Or.inr ⟨g, cap, cur, by rw [hl], hB, hh, by rw [hl]; omega, hcm, hs, ?_⟩⟩, rfl⟩
    · rw [run_slice_h W t _ _ cap (by rw [elem_G ht]; exact ht.und) .i64 _ (by omega) (by omega), elem_G ht, size_G ht]
      by_cases h0 : cap = 0
      · have h1 : m = 0 := by omega
        subst h1
        simp [Result.andThen, sliced, h0]
      · simp [Result.andThen, sliced, h0, Addr.add]
    · rw [hl, ← rowC_take hf xs m hm, ← htk, List.take_take, Nat.min_eq_left (Nat.mul_le_mul_right k hm)]
/-- 'list[m:]' of a row that is owned -/
theorem rd_fromG {P : Program} {t e : TypeId} {bytes : Nat} (ht : TyG P t e k bytes) (hf : Wid f k) {w : World} {B : Nat} {v : Value} {xs : List α} (h : OwnG f k e w B v xs) (m : Nat) (hm : m ≤ xs.length) :
    ∃ u, (∀ W : World, (Instr.slice t v (some (.int .i64 (m : Int))) none none).run P W = .ok u W) ∧ RdG f k w u (xs.drop m) := by
  have hl : (xs.drop m).length = xs.length - m := List.length_drop
  rcases ownG_cases hf h with ⟨rfl, rfl⟩ | ⟨g, cap, cur, rfl, hB, hg, hc, hcm, hh, hs, htk, hcs⟩
  · have h0 : m = 0 := by simpa using hm
    subst h0
    refine ⟨.slice none 0 0, fun W => ?_, ⟨none, 0, rfl, Nat.le_refl _, fun h => absurd rfl h⟩⟩
    rw [run_slice_l W t _ 0 0 (by rw [elem_G ht]; exact ht.und) .i64 _ (by omega) (by omega), elem_G ht, size_G ht]
    simp [Result.andThen, sliced]
  · by_cases h0 : cap = m
    · refine ⟨.slice (some ⟨g, 0, none⟩) (xs.length - m) (cap - m), fun W => ?_, ⟨_, cap - m, by rw [hl], by rw [hl]; omega, fun hne => ?_⟩⟩
      · rw [run_slice_l W t _ xs.length cap (by rw [elem_G ht]; exact ht.und) .i64 _ (by omega) (by omega), elem_G ht, size_G ht]
        simp [Result.andThen, sliced, h0]
      · exact absurd (List.eq_nil_of_length_eq_zero (by omega)) hne
    · refine ⟨.slice (some ⟨g, m * k, none⟩) (xs.length - m) (cap - m), fun W => ?_, ?_⟩
      · rw [run_slice_l W t _ xs.length cap (by rw [elem_G ht]; exact ht.und) .i64 _ (by omega) (by omega), elem_G ht, size_G ht]
        simp [Result.andThen, sliced, h0, Addr.add]
        try omega
      · have h9 := rdG_drop (rdG_owns hf h) m (cap - m) hm (by omega)
        rwa [Nat.zero_add] at h9
end
end Go.Proofs.Ytfoncmeplofedaf

namespace Go.Proofs.Ytfoncmeplofedaf
open Go.RowKit
abbrev Bl := Int × ByteArray
abbrev bl0 : Bl := (0, ByteArray.empty)
abbrev In64 (d : Int) : Prop := -9223372036854775808 ≤ d ∧ d ≤ 9223372036854775807
def blC (l : List Bl) : List Value := l.flatMap fun p => [.int .i64 p.1, .string p.2]
theorem blC_nil : blC [] = [] := rfl
theorem blC_cons (p : Bl) (l : List Bl) : blC (p :: l) = .int .i64 p.1 :: .string p.2 :: blC l := rfl
theorem blC_append (l m : List Bl) : blC (l ++ m) = blC l ++ blC m := by unfold blC; rw [List.flatMap_append]
theorem blC_len (l : List Bl) : (blC l).length = l.length * 2 := by
  induction l with
  | nil => rfl
  | cons p t ih => rw [blC_cons, List.length_cons, List.length_cons, ih, List.length_cons]; omega
theorem blC_get : ∀ (l : List Bl) (i : Nat), i < l.length → (blC l)[i * 2]? = some (.int .i64 (l.getD i bl0).1) ∧ (blC l)[i * 2 + 1]? = some (.string (l.getD i bl0).2)
  | p :: t, 0, _ => ⟨rfl, rfl⟩
  | p :: t, i + 1, h => by
    obtain ⟨h1, h2⟩ := blC_get t i (by simpa using h)
    rw [blC_cons, show (i + 1) * 2 = i * 2 + 1 + 1 by omega]
    exact ⟨h1, h2⟩
theorem blC_set : ∀ (l : List Bl) (i : Nat) (p : Bl), i < l.length → ((blC l).set (i * 2) (.int .i64 p.1)).set (i * 2 + 1) (.string p.2) = blC (l.set i p)
  | q :: t, 0, p, _ => rfl
  | q :: t, i + 1, p, h => by
    have e := blC_set t i p (by simpa using h)
    rw [blC_cons, show (i + 1) * 2 = i * 2 + 1 + 1 by omega, List.set_cons_succ, List.set_cons_succ, List.set_cons_succ, List.set_cons_succ, e, List.set_cons_succ, blC_cons]
theorem blC_inj {l m : List Bl} (h : blC l = blC m) : l = m := by
  induction l generalizing m with
  | nil => cases m with
    | nil => rfl
    | cons p t => cases h
  | cons p t ih => cases m with
    | nil => cases h
    | cons q r =>
      rw [blC_cons, blC_cons] at h
      simp only [List.cons.injEq, Value.int.injEq, true_and, Value.string.injEq] at h
      obtain ⟨h1, h2, h3⟩ := h
      rw [ih h3, Prod.ext h1 h2]
/-- a slice of blobs that can be read -/
def RdB (w : World) (v : Value) (l : List Bl) : Prop :=
  ∃ ao cap, v = .slice ao l.length cap ∧ l.length ≤ cap ∧ (l ≠ [] → ∃ b off, ao = some ⟨b, off, none⟩ ∧ b < w.heap.size ∧ ∀ j, j < l.length → w.cell? ⟨b, off + j * 2, none⟩ = some (.int .i64 (l.getD j bl0).1) ∧ w.cell? ⟨b, off + j * 2 + 1, none⟩ = some (.string (l.getD j bl0).2))
theorem rdB_below {w w' : World} {v : Value} {l : List Bl} (h : RdB w v l) (hb : Below w.heap.size w w') : RdB w' v l := by
  obtain ⟨ao, cap, hv, hcap, hx⟩ := h
  refine ⟨ao, cap, hv, hcap, fun hne => ?_⟩
  obtain ⟨b, off, ha, hlt, hc⟩ := hx hne
  exact ⟨b, off, ha, Nat.lt_of_lt_of_le hlt hb.size, fun j hj => ⟨(hb.cell (p := ⟨b, off + j * 2, none⟩) hlt).trans (hc j hj).1, (hb.cell (p := ⟨b, off + j * 2 + 1, none⟩) hlt).trans (hc j hj).2⟩⟩
theorem rdB_owns {w : World} {base : Nat} {e : TypeId} {v : Value} {l : List Bl} (h : w.ownsRow base e 2 v l.length (blC l)) : RdB w v l := by
  rcases h.2 with ⟨rfl, h0⟩ | ⟨g, cap, cur, rfl, hg, hh, hn, hm, hs, ht⟩
  · obtain rfl : l = [] := List.eq_nil_of_length_eq_zero h0
    exact ⟨none, 0, rfl, Nat.le_refl _, fun h => absurd rfl h⟩
  · refine ⟨_, cap, rfl, hn, fun _ => ⟨g, 0, rfl, (Array.getElem?_eq_some_iff.1 hh).1, fun j hj => ?_⟩⟩
    obtain ⟨h1, h2⟩ := blC_get l j hj
    rw [Nat.zero_add, ← h1, ← h2]
    have hl := blC_len l
    exact ⟨h.cellAt (j * 2) (by omega), h.cellAt (j * 2 + 1) (by omega)⟩
/-- the walk's view of it -/
theorem rdB_cases {w : World} {v : Value} {l : List Bl} (h : RdB w v l) :
    (l = [] ∧ ∃ ao cap, v = .slice ao 0 cap) ∨ (0 < l.length ∧ ∃ b off cap, v = .slice (some ⟨b, off, none⟩) l.length cap ∧ l.length ≤ cap ∧ b < w.heap.size ∧ ∀ j, j < l.length → w.cell? ⟨b, off + j * 2, none⟩ = some (.int .i64 (l.getD j bl0).1) ∧ w.cell? ⟨b, off + j * 2 + 1, none⟩ = some (.string (l.getD j bl0).2)) := by
  obtain ⟨ao, cap, hv, hcap, hx⟩ := h
  by_cases h0 : l = []
  · subst h0
    exact Or.inl ⟨rfl, ao, cap, hv⟩
  · obtain ⟨b, off, rfl, h2, h3⟩ := hx h0
    exact Or.inr ⟨List.length_pos_iff.2 h0, b, off, cap, hv, hcap, h2, h3⟩
theorem rdB_shape {w : World} {v : Value} {l : List Bl} (h : RdB w v l) : ∃ ao cap, v = .slice ao l.length cap := by
  obtain ⟨ao, cap, hv, _⟩ := h
  exact ⟨ao, cap, hv⟩
end Go.Proofs.Ytfoncmeplofedaf

namespace Go.Proofs.Ytfoncmeplofedaf
open Go.RowKit
set_option linter.unusedVariables false
section
variable {α : Type} {f : α → List Value} {k : Nat}
/-- the type's facts with its zero -/
structure TyZ (P : Program) (t e : TypeId) (f : α → List Value) (k bytes : Nat) (z0 : α) (z : Value) : Prop where
  und : P.underlying t = some (.slice e)
  inf : (P.info? e).map (fun i => (i.zero, i.size, i.bytes)) = some (some z, k, bytes)
  small : bytes ≤ 4096
  zero : z.cells = (f z0).toArray
theorem TyZ.ty {P : Program} {t e : TypeId} {bytes : Nat} {z0 : α} {z : Value} (ht : TyZ P t e f k bytes z0 z) (hf : Wid f k) : TyG P t e k bytes :=
  ⟨ht.und, ⟨z, by rw [ht.zero, List.size_toArray, hf.len], ht.inf⟩, ht.small⟩
theorem rowC_replicate_get (hf : Wid f k) (z0 : α) (n i : Nat) (h : i < n * k) : (rowC f (List.replicate n z0))[i]? = (f z0)[i % k]? := by
  have hd := Nat.div_add_mod i k
  have hm := Nat.mod_lt i hf.pos
  have hi : i / k < n := Nat.div_lt_of_lt_mul (by rw [Nat.mul_comm]; exact h)
  have hg := rowC_get hf (List.replicate n z0) (i / k) (by rw [List.length_replicate]; exact hi) (i % k) hm
  rw [show i / k * k + i % k = i by rw [Nat.mul_comm]; exact hd, List.getElem_replicate] at hg
  exact hg
/-- a new row's cells are zeros -/
theorem zeros_G (hf : Wid f k) {z0 : α} {z : Value} (hz : z.cells = (f z0).toArray) (n : Nat) : (Builtin.zeroCells z.cells n).toList = rowC f (List.replicate n z0) := by
  have hs : z.cells.size = k := by rw [hz, List.size_toArray, hf.len]
  apply List.ext_getElem?
  intro i
  unfold Builtin.zeroCells
  rw [Array.getElem?_toList, Array.getElem?_map, hs]
  by_cases h : i < n * k
  · have hr : (Array.range (n * k))[i]? = some i := by rw [Array.getElem?_range, if_pos h]
    rw [hr, rowC_replicate_get hf z0 n i h, Option.map_some]
    have hm := Nat.mod_lt i hf.pos
    rw [getElem!_pos _ (i % k) (by rw [hs]; exact hm)]
    have e : z.cells[i % k]? = (f z0)[i % k]? := by rw [hz, List.getElem?_toArray]
    rw [← e, Array.getElem?_eq_getElem (by rw [hs]; exact hm)]
  · have hr : (Array.range (n * k))[i]? = none := by rw [Array.getElem?_range, if_neg h]
    rw [hr, Option.map_none, List.getElem?_eq_none (by rw [rowC_len hf, List.length_replicate]; omega)]
theorem made_G (hf : Wid f k) {z0 : α} {z : Value} (hz : z.cells = (f z0).toArray) (n : Nat) : (madeCells z.cells (n * k)).toList = rowC f (List.replicate n z0) := by
  have hs : z.cells.size = k := by rw [hz, List.size_toArray, hf.len]
  have e := zeros_G hf hz n
  rw [← e]
  unfold Builtin.zeroCells madeCells
  rw [hs]
  try rfl
/-- a row that fills its block -/
theorem heap_of_G {w : World} {B g n : Nat} {e : TypeId} {L : List α} (hf : Wid f k) (h : w.ownsRow B e k (.slice (some ⟨g, 0, none⟩) n n) n (rowC f L)) : w.heap[g]? = some (.cells (rowC f L).toArray e (0, 0)) ∧ B ≤ g := by
  rcases h.2 with ⟨h0, _⟩ | ⟨g', cap, cur, hv, hg, hh, hn, hm, hs, ht⟩
  · cases h0
  · simp only [Value.slice.injEq, Option.some.injEq, Addr.mk.injEq] at hv
    obtain ⟨⟨rfl, _, _⟩, _, rfl⟩ := hv
    have e : cur.toList = rowC f L := by rw [← ht, List.take_of_length_le (by rw [Array.length_toList]; omega)]
    exact ⟨by rw [hh, ← e], hg⟩
theorem owns_of_G {w : World} {B g n cap : Nat} {e : TypeId} {L : List α} (hf : Wid f k) (hg : B ≤ g) (hn : n ≤ cap) (hc : cap ≤ 16777216) (hL : L.length = cap) (h : w.heap[g]? = some (.cells (rowC f L).toArray e (0, 0))) : OwnG f k e w B (.slice (some ⟨g, 0, none⟩) n cap) (L.take n) := by
  have hl : (L.take n).length = n := by rw [List.length_take]; omega
  refine ⟨by rw [rowC_len hf], Or.inr ⟨g, cap, _, by rw [hl], hg, h, by rw [hl]; exact hn, by unfold maxLen; omega, by rw [List.size_toArray, rowC_len hf, hL], ?_⟩⟩
  rw [hl]
  exact rowC_take hf L n (by omega)
/-- 'list[m:]' of a row that can be read -/
theorem rd_fromR {P : Program} {t e : TypeId} {bytes : Nat} (ht : TyG P t e k bytes) {w : World} {v : Value} {xs : List α} (h : RdG f k w v xs) (m : Nat) (hm : m ≤ xs.length) (hx : xs.length ≤ 16777216) :
    ∃ u, (∀ W : World, (Instr.slice t v (some (.int .i64 (m : Int))) none none).run P W = .ok u W) ∧ RdG f k w u (xs.drop m) := by
  have hl : (xs.drop m).length = xs.length - m := List.length_drop
  obtain ⟨ao, cap, rfl, hcap, hx9⟩ := h
  refine ⟨sliced ao m xs.length cap k, fun W => ?_, ?_⟩
  · rw [run_slice_l W t _ xs.length cap (by rw [elem_G ht]; exact ht.und) .i64 _ (by omega) (by omega), elem_G ht, size_G ht]
    simp [Result.andThen]
  · unfold sliced
    by_cases h0 : cap = m
    · rw [if_pos h0]
      have h1 : xs.length = m := by omega
      refine ⟨ao, cap - m, by rw [hl], by omega, fun hne => absurd (List.eq_nil_of_length_eq_zero (by omega)) hne⟩
    · rw [if_neg h0]
      cases ao with
      | none => 
        refine ⟨none, cap - m, by rw [hl]; rfl, by omega, fun hne => ?_⟩
        obtain ⟨b, off, ha, _⟩ := hx9 (fun e0 => hne (by rw [e0]; simp))
        cases ha
      | some ad =>
        by_cases hn0 : xs = []
        · subst hn0
          refine ⟨_, cap - m, by rw [hl], by simp, fun hne => absurd (by simp) hne⟩
        · obtain ⟨b, off, ha, hlt, hc⟩ := hx9 hn0
          obtain rfl := Option.some.inj ha
          have h9 := rdG_drop (f := f) (k := k) (w := w) (b := b) (off := off) (n := xs.length) (cap := cap) (l := xs) ⟨_, cap, rfl, hcap, fun _ => ⟨b, off, rfl, hlt, hc⟩⟩ m (cap - m) hm (by omega)
          simp only [Option.map_some, Addr.add_lit]
          exact h9
/-- 'list[:m]' of a row that can be read -/
theorem rd_toR {P : Program} {t e : TypeId} {bytes : Nat} (ht : TyG P t e k bytes) {w : World} {v : Value} {xs : List α} (h : RdG f k w v xs) (m : Nat) (hm : m ≤ xs.length) (hx : xs.length ≤ 16777216) :
    ∃ u, (∀ W : World, (Instr.slice t v none (some (.int .i64 (m : Int))) none).run P W = .ok u W) ∧ RdG f k w u (xs.take m) := by
  have h0 := h
  obtain ⟨ao, cap, rfl, hcap, hx9⟩ := h
  have h1 := rdG_take h0 m hm
  refine ⟨.slice ao m cap, fun W => ?_, h1⟩
  rw [run_slice_h W t _ _ cap (by rw [elem_G ht]; exact ht.und) .i64 _ (by omega) (by omega), elem_G ht, size_G ht]
  by_cases hc0 : cap = 0
  · have : m = 0 := by omega
    subst this
    simp [Result.andThen, sliced, hc0]
  · cases ao with
    | none => simp [Result.andThen, sliced, hc0]
    | some ad => 
      obtain ⟨b, o, p⟩ := ad
      cases p with
      | none => simp [Result.andThen, sliced, hc0, Addr.add]
      | some _ => simp [Result.andThen, sliced, hc0, Addr.add]
/-- append of a row under two names of its type -/
theorem append_two {P : Program} {t t2 e : TypeId} {bytes : Nat} (ht : TyG P t e k bytes) (ht2 : TyG P t2 e k bytes) (w : World) (ty : TypeId) (ao bo : Option Addr) (n c m d : Nat) : (Builtin.append_ #[t, t2] ty #[.slice ao n c, .slice bo m d]).run P w = (Builtin.append_ #[t, t] ty #[.slice ao n c, .slice bo m d]).run P w := by
  obtain ⟨z, hz, hi⟩ := ht.inf
  obtain ⟨i0, hi0, hz0, hz1, hz2⟩ := info_parts hi
  simp [Builtin.append_, run_underlying ht.und, run_underlying ht2.und, sizeOf, typeInfo, hi0, hz1]
/-- 'append(s[:m], make(S, z)...)' that goes behind the room of a row that fills it -/
theorem append_zerosG {P : Program} {t e tn : TypeId} {bytes : Nat} {z0 : α} {z : Value} (ht : TyZ P t e f k bytes z0 z) (hf : Wid f k) (htn : P.underlying tn = some (.int .i64)) (w : World) (ty : TypeId) (g n m q : Nat) (l : List α) (hl : l.length = n) (hw : w.heap[g]? = some (.cells (rowC f l).toArray e (0, 0))) (hm : m ≤ n) (hq : m + q = n + 1) (hn : n ≤ 1048576) :
    ∃ C w' M, n + 1 ≤ C ∧ (Builtin.append_ #[t, tn] ty #[.slice (some ⟨g, 0, none⟩) m n, .int .i64 (q : Int)]).run P w = .ok (.slice (some ⟨w.heap.size, 0, none⟩) (n + 1) C) w' ∧ C ≤ maxLen ∧ M.length = C ∧ M.take m = l.take m ∧ w'.heap[w.heap.size]? = some (.cells (rowC f M).toArray e (0, 0)) ∧ Below w.heap.size w w' ∧ w'.heap.size = w.heap.size + 1 := by
  obtain ⟨i0, hi, hz0, hz1, hz2⟩ := info_parts ht.inf
  have hkp := hf.pos
  have hby := ht.small
  have hge := grownCap_ge w (n + 1) n e
  have hcm := grownCap_le_maxLen w (n + 1) n e (by unfold maxLen; omega)
  have hzs : z.cells.size = k := by rw [ht.zero, List.size_toArray, hf.len]
  have hcells : ∀ j u, (rowC f (l.take m))[j]? = some u → w.cell? ((⟨g, 0, none⟩ : Addr).add j) = some u := fun j u hu => by
    rw [Addr.add_lit, Nat.zero_add, cell_of_row w g j _ _ (0, 0) hw]
    rw [← rowC_take hf l m (by omega)] at hu
    have hj := (List.getElem?_eq_some_iff.1 hu).1
    rw [List.length_take] at hj
    rw [List.getElem?_take_of_lt (by omega)] at hu
    rw [List.getElem?_toArray]
    exact hu
  have hfc := run_firstCells_some (P := P) w.drew i0.size m ⟨g, 0, none⟩ m n (rowC f (l.take m)) (by rw [rowC_len hf, List.length_take, hz1]; rw [Nat.min_eq_left (by omega)]) hcells
  have hwz : IntKind.i64.wrap (q : Int) = (q : Int) := IntWalk.i64_in _ ⟨by omega, by omega⟩
  have hqpos : q ≠ 0 := by omega
  have h1 : ¬ ((q : Int) < 0) := by omega
  have hqb : (q : Int) * (bytes : Int) ≤ 1048577 * 4096 := by
    rw [← Int.natCast_mul]
    have := Nat.mul_le_mul (show q ≤ 1048577 by omega) hby
    omega
  have h2 : ¬ (281474976710656 < (q : Int) * (bytes : Int)) := by omega
  have h3 : ¬ (m + q ≤ n) := by omega
  have h4' : ¬ (9223372036854775807 < (m : Int) + (q : Int)) := by omega
  have h5 : ¬ (281474976710656 < Builtin.nextslicecap (m + q) n * bytes) := by
    have h9 := nextslicecap_le (need := m + q) (old := n) (by omega)
    have h8 := Nat.mul_le_mul (show Builtin.nextslicecap (m + q) n ≤ 4 * 1048577 + 1024 by omega) hby
    omega
  have h6 : ¬ (q * k = 0) := Nat.mul_ne_zero hqpos (by omega)
  refine ⟨grownCap w (n + 1) n e, w.drew.alloc (.cells ((rowC f (l.take m)).toArray ++ Builtin.zeroCells z.cells q ++ Builtin.zeroCells z.cells (grownCap w (n + 1) n e - (n + 1))) e), l.take m ++ List.replicate q z0 ++ List.replicate (grownCap w (n + 1) n e - (n + 1)) z0, hge, ?_, hcm, by simp only [List.length_append, List.length_take, List.length_replicate]; omega, ?_, ?_, (Below.refl _ w).drew.alloc (Nat.le_refl _) _, by rw [World.size_alloc]; rfl⟩
  · rw [← hq]
    rw [hz1] at hfc
    simp [Builtin.append_, run_underlying ht.und, run_underlying htn, sizeOf, typeInfo, zeroValue, hi, hz0, hz1, hz2, asInt, asIntOf, hwz, h1, h2, h3, h4', h5, h6, hfc, Question.forced, newRow, grownCap]
  · rw [List.append_assoc, List.take_append_of_le_length (by rw [List.length_take]; omega), List.take_of_length_le (by rw [List.length_take]; omega)]
  · have e9 := heap_alloc_new w.drew (.cells ((rowC f (l.take m)).toArray ++ Builtin.zeroCells z.cells q ++ Builtin.zeroCells z.cells (grownCap w (n + 1) n e - (n + 1))) e)
    refine e9.trans ?_
    have e2 : (rowC f (l.take m)).toArray ++ Builtin.zeroCells z.cells q ++ Builtin.zeroCells z.cells (grownCap w (n + 1) n e - (n + 1)) = (rowC f (l.take m ++ List.replicate q z0 ++ List.replicate (grownCap w (n + 1) n e - (n + 1)) z0)).toArray := by
      apply Array.toList_inj.1
      rw [Array.toList_append, Array.toList_append, zeros_G hf ht.zero, zeros_G hf ht.zero, rowC_append, rowC_append]
    rw [e2]
/-- 'copy' of structs into a row -/
theorem copy_G {P : Program} {t e : TypeId} {bytes : Nat} (ht : TyG P t e k bytes) (hf : Wid f k) (w : World) (sT ty : TypeId) (g m dLen dCap : Nat) (a : Addr) (sLen sCap : Nat) (M ys : List α) (hw : w.heap[g]? = some (.cells (rowC f M).toArray e (0, 0))) (hn : ys.length = Nat.min sLen dLen) (hsrc : ∀ j u, (rowC f ys)[j]? = some u → w.cell? (a.add j) = some u) (hfit : m + ys.length ≤ M.length) :
    (Builtin.copy_ #[t, sT] ty #[.slice (some ⟨g, m * k, none⟩) dLen dCap, .slice (some a) sLen sCap]).run P w =
      .ok (goInt ys.length) (w.setRow g (rowC f (M.take m ++ ys ++ M.drop (m + ys.length))).toArray) := by
  obtain ⟨z, hz, hi⟩ := ht.inf
  obtain ⟨i0, hi0, hz0, hz1, hz2⟩ := info_parts hi
  have hlen : (rowC f ys).length = ys.length * k := rowC_len hf ys
  have hle : m * k + ys.length * k ≤ M.length * k := by rw [← Nat.add_mul]; exact Nat.mul_le_mul_right k hfit
  have hl := run_loadCells_list (P := P) w a (rowC f ys) hsrc
  have hst := run_storeCells_at P g (m * k) e (rowC f ys) 0 _ w hw (by rw [List.size_toArray, hlen, rowC_len hf, Nat.add_zero]; omega) (rowC_one hf _)
  have e9 : List.take (m * k + 0) (rowC f M).toArray.toList ++ rowC f ys ++ List.drop (m * k + 0 + (rowC f ys).length) (rowC f M).toArray.toList = rowC f (M.take m ++ ys ++ M.drop (m + ys.length)) := by
    rw [rowC_append, rowC_append, List.toList_toArray, Nat.add_zero, rowC_take hf M m (by omega), hlen, ← Nat.add_mul, rowC_drop hf M (m + ys.length) hfit]
  rw [e9] at hst
  have hcl : (rowC f ys).length = Nat.min sLen dLen * k := by rw [hlen, hn]
  rw [hcl] at hl
  simp [Builtin.copy_, run_underlying ht.und, Builtin.lenOf, Builtin.firstCells, sizeOf, typeInfo, hi0, hz1, hl, hst, hn]
/-- 's[m:]', 's[:m]' of a row at its block's head -/
theorem slG_from {P : Program} {t e : TypeId} {bytes : Nat} (ht : TyG P t e k bytes) (W : World) (g n C m : Nat) (hm : m < C) (hmn : m ≤ n) (hn : n ≤ C) (hC : C ≤ maxLen) : (Instr.slice t (.slice (some ⟨g, 0, none⟩) n C) (some (.int .i64 (m : Int))) none none).run P W = .ok (.slice (some ⟨g, m * k, none⟩) (n - m) (C - m)) W := by
  rw [run_slice_l W t _ _ C (by rw [elem_G ht]; exact ht.und) .i64 _ (by omega) (by omega), elem_G ht, size_G ht]
  have e9 : sliced (some (⟨g, 0, none⟩ : Addr)) m n C k = .slice (some ⟨g, m * k, none⟩) (n - m) (C - m) := by
    unfold sliced
    rw [if_neg (by omega)]
    simp only [Option.map_some, Addr.add_lit, Nat.zero_add]
  rw [← e9]
  simp [Result.andThen]
theorem slG_to {P : Program} {t e : TypeId} {bytes : Nat} (ht : TyG P t e k bytes) (W : World) (g n m : Nat) (hm : m ≤ n) (hn : n ≤ 16777216) : (Instr.slice t (.slice (some ⟨g, 0, none⟩) n n) none (some (.int .i64 (m : Int))) none).run P W = .ok (.slice (some ⟨g, 0, none⟩) m n) W := by
  rw [run_slice_h W t _ _ n (by rw [elem_G ht]; exact ht.und) .i64 _ (by omega) (by omega), elem_G ht, size_G ht]
  by_cases hc0 : n = 0
  · simp [Result.andThen, sliced, hc0]
  · simp [Result.andThen, sliced, hc0, Addr.add]
/-- 's[:0]' of a new row -/
theorem slG_zero {P : Program} {t e : TypeId} {bytes : Nat} {z0 : α} {z : Value} (ht : TyZ P t e f k bytes z0 z) (W : World) (g n C : Nat) (hn : n ≤ C) (hC : C ≤ 9223372036854775807) : (Instr.slice t (.slice (some ⟨g, 0, none⟩) n C) none (some (.int .i64 0)) none).run P W = .ok (.slice (some ⟨g, 0, none⟩) 0 C) W := by
  obtain ⟨i0, hi, hz0, hz1, hz2⟩ := info_parts ht.inf
  have hel : P.elem t = e := by unfold Program.elem; rw [ht.und]
  have hsz : (sizeOf e).run P W = .ok k W := by simp [sizeOf, typeInfo, hi, hz1]
  have h9 := run_slice_h (P := P) W t (some ⟨g, 0, none⟩) n C (by rw [hel]; exact ht.und) .i64 0 (by omega) (by omega)
  rw [h9, hel, hsz]
  by_cases hc0 : C = 0
  · simp [Result.andThen, sliced, hc0]
  · simp [Result.andThen, sliced, hc0, Addr.add]
/-- 'clear(s[m:])' of a row that fills its block -/
theorem clear_G {P : Program} {t e : TypeId} {bytes : Nat} {z0 : α} {z : Value} (ht : TyZ P t e f k bytes z0 z) (hf : Wid f k) (w : World) (g n m : Nat) (L : List α) (hL : L.length = n) (hm : m ≤ n) (hn : n ≤ 1048576) (hw : w.heap[g]? = some (.cells (rowC f L).toArray e (0, 0))) :
    ∃ u, (∀ W, (Instr.slice t (.slice (some ⟨g, 0, none⟩) n n) (some (.int .i64 (m : Int))) none none).run P W = .ok u W) ∧ ∃ w' M, (∀ ty, (Builtin.clear_ #[t] ty #[u]).run P w = .ok (.tuple #[]) w') ∧ M.length = n ∧ M.take m = L.take m ∧ w'.heap[g]? = some (.cells (rowC f M).toArray e (0, 0)) ∧ w.grownBy w' (some g) := by
  obtain ⟨i0, hi, hz0, hz1, hz2⟩ := info_parts ht.inf
  have htg := ht.ty hf
  refine ⟨sliced (some ⟨g, 0, none⟩) m n n k, fun W => ?_, ?_⟩
  · rw [run_slice_l W t _ _ n (by rw [elem_G htg]; exact htg.und) .i64 _ (by omega) (by omega), elem_G htg, size_G htg]
    simp [Result.andThen]
  rcases Nat.lt_or_ge m n with h | h
  · have e9 : sliced (some (⟨g, 0, none⟩ : Addr)) m n n k = .slice (some ⟨g, m * k, none⟩) (n - m) (n - m) := by
      unfold sliced
      rw [if_neg (by omega)]
      simp only [Option.map_some, Addr.add_lit, Nat.zero_add]
    rw [e9]
    have hlr : (rowC f (List.replicate (n - m) z0)).length = (n - m) * k := by rw [rowC_len hf, List.length_replicate]
    have hmk : m * k + (n - m) * k = n * k := by rw [← Nat.add_mul]; congr 1; omega
    have hM : List.take (m * k + 0) (rowC f L).toArray.toList ++ rowC f (List.replicate (n - m) z0) ++ List.drop (m * k + 0 + (rowC f (List.replicate (n - m) z0)).length) (rowC f L).toArray.toList = rowC f (L.take m ++ List.replicate (n - m) z0) := by
      rw [rowC_append, List.toList_toArray, Nat.add_zero, rowC_take hf L m (by omega), List.drop_of_length_le (by rw [hlr, rowC_len hf, hL]; omega), List.append_nil]
    have hst := run_storeCells_at P g (m * k) e (rowC f (List.replicate (n - m) z0)) 0 _ w hw (by rw [List.size_toArray, hlr, rowC_len hf, hL, Nat.add_zero]; omega) (rowC_one hf _)
    rw [hM] at hst
    have hzc := zeros_G hf ht.zero (n - m)
    have hZ : (zeroValue e).run P w = .ok z w := by simp [zeroValue, typeInfo, hi, hz0]
    obtain ⟨m', hm'⟩ : ∃ m', n - m = m' + 1 := ⟨n - m - 1, by omega⟩
    refine ⟨w.setRow g (rowC f (L.take m ++ List.replicate (n - m) z0)).toArray, L.take m ++ List.replicate (n - m) z0, fun ty => ?_, by rw [List.length_append, List.length_take, List.length_replicate]; omega, by rw [List.take_append_of_le_length (by rw [List.length_take]; omega), List.take_of_length_le (by rw [List.length_take]; omega)], setRow_heap w g _ _ e _ hw, ?_⟩
    · rw [hm'] at hst hzc ⊢
      simp [Builtin.clear_, run_underlying ht.und, hZ, hzc, hst]
    · exact ⟨rfl, rfl, rfl, by simp [World.setRow], fun q hq hne => setRow_other _ _ _ _ (fun e => hne (by rw [e]))⟩
  · obtain rfl : m = n := by omega
    have e9 : sliced (some (⟨g, 0, none⟩ : Addr)) m m m k = .slice (some ⟨g, 0, none⟩) 0 0 := by
      unfold sliced
      rw [if_pos rfl, Nat.sub_self]
    rw [e9]
    exact ⟨w, L, fun ty => by simp [Builtin.clear_, run_underlying ht.und], hL, rfl, hw, World.grownBy.refl _ _⟩
end
end Go.Proofs.Ytfoncmeplofedaf

namespace Go.Proofs.Ytfoncmeplofedaf
open Go.RowKit
set_option linter.unusedVariables false
/-- digest, text, stamp, kept, sure -/
abbrev It := Int × ByteArray × Int × Int × Bool
abbrev it0 : It := (0, ByteArray.empty, 0, 0, false)
def itf (p : It) : List Value := [.int .i64 p.1, .string p.2.1, .int .i64 p.2.2.1, .int .i64 p.2.2.2.1, .bool p.2.2.2.2]
theorem itW : Wid itf 5 := ⟨by decide, fun x => rfl, fun x u hu => by
  simp only [itf, List.mem_cons, List.mem_nil_iff, or_false] at hu
  rcases hu with rfl | rfl | rfl | rfl | rfl <;> rfl⟩
theorem getD_it {l : List It} {j : Nat} (h : j < l.length) : l.getD j it0 = l[j] := by simp [List.getD, h]
/-- the five cells of an item -/
theorem it_cells {b off : Nat} {l : List It} {w : World} (h : CellsG itf 5 b off l w) {j : Nat} (hj : j < l.length) : w.cell? ⟨b, off + j * 5, none⟩ = some (.int .i64 (l.getD j it0).1) ∧ w.cell? ⟨b, off + j * 5 + 1, none⟩ = some (.string (l.getD j it0).2.1) ∧ w.cell? ⟨b, off + j * 5 + 2, none⟩ = some (.int .i64 (l.getD j it0).2.2.1) ∧ w.cell? ⟨b, off + j * 5 + 3, none⟩ = some (.int .i64 (l.getD j it0).2.2.2.1) ∧ w.cell? ⟨b, off + j * 5 + 4, none⟩ = some (.bool (l.getD j it0).2.2.2.2) := by
  rw [getD_it hj]
  exact ⟨h j hj 0 _ rfl, h j hj 1 _ rfl, h j hj 2 _ rfl, h j hj 3 _ rfl, h j hj 4 _ rfl⟩
theorem it_cells0 {b : Nat} {l : List It} {w : World} (h : CellsG itf 5 b 0 l w) {j : Nat} (hj : j < l.length) : w.cell? ⟨b, j * 5, none⟩ = some (.int .i64 (l.getD j it0).1) ∧ w.cell? ⟨b, j * 5 + 1, none⟩ = some (.string (l.getD j it0).2.1) ∧ w.cell? ⟨b, j * 5 + 2, none⟩ = some (.int .i64 (l.getD j it0).2.2.1) ∧ w.cell? ⟨b, j * 5 + 3, none⟩ = some (.int .i64 (l.getD j it0).2.2.2.1) ∧ w.cell? ⟨b, j * 5 + 4, none⟩ = some (.bool (l.getD j it0).2.2.2.2) := by
  have h9 := it_cells h hj
  rw [Nat.zero_add] at h9
  exact h9
/-- one cell stored -/
theorem it_set1 (l : List It) (i : Nat) (h : i < l.length) (x : Int) : (rowC itf l).set (i * 5) (.int .i64 x) = rowC itf (l.set i (x, (l.getD i it0).2)) := by
  have e := rowC_set itW l i h 0 (.int .i64 x) (x, l[i].2) (by decide) rfl
  rw [getD_it h]; exact e
theorem it_set2 (l : List It) (i : Nat) (h : i < l.length) (x : ByteArray) : (rowC itf l).set (i * 5 + 1) (.string x) = rowC itf (l.set i ((l.getD i it0).1, x, (l.getD i it0).2.2)) := by
  have e := rowC_set itW l i h 1 (.string x) (l[i].1, x, l[i].2.2) (by decide) rfl
  rw [getD_it h]; exact e
theorem it_set3 (l : List It) (i : Nat) (h : i < l.length) (x : Int) : (rowC itf l).set (i * 5 + 2) (.int .i64 x) = rowC itf (l.set i ((l.getD i it0).1, (l.getD i it0).2.1, x, (l.getD i it0).2.2.2)) := by
  have e := rowC_set itW l i h 2 (.int .i64 x) (l[i].1, l[i].2.1, x, l[i].2.2.2) (by decide) rfl
  rw [getD_it h]; exact e
theorem it_set4 (l : List It) (i : Nat) (h : i < l.length) (x : Int) : (rowC itf l).set (i * 5 + 3) (.int .i64 x) = rowC itf (l.set i ((l.getD i it0).1, (l.getD i it0).2.1, (l.getD i it0).2.2.1, x, (l.getD i it0).2.2.2.2)) := by
  have e := rowC_set itW l i h 3 (.int .i64 x) (l[i].1, l[i].2.1, l[i].2.2.1, x, l[i].2.2.2.2) (by decide) rfl
  rw [getD_it h]; exact e
theorem it_set5 (l : List It) (i : Nat) (h : i < l.length) (x : Bool) : (rowC itf l).set (i * 5 + 4) (.bool x) = rowC itf (l.set i ((l.getD i it0).1, (l.getD i it0).2.1, (l.getD i it0).2.2.1, (l.getD i it0).2.2.2.1, x)) := by
  have e := rowC_set itW l i h 4 (.bool x) (l[i].1, l[i].2.1, l[i].2.2.1, l[i].2.2.2.1, x) (by decide) rfl
  rw [getD_it h]; exact e
theorem it_set (l : List It) (i : Nat) (p : It) (h : i < l.length) : (((((rowC itf l).set (i * 5) (.int .i64 p.1)).set (i * 5 + 1) (.string p.2.1)).set (i * 5 + 2) (.int .i64 p.2.2.1)).set (i * 5 + 3) (.int .i64 p.2.2.2.1)).set (i * 5 + 4) (.bool p.2.2.2.2) = rowC itf (l.set i p) := by
  rw [it_set1 _ _ h, it_set2 _ _ (by simpa using h), it_set3 _ _ (by simpa using h), it_set4 _ _ (by simpa using h), it_set5 _ _ (by simpa using h)]
  simp only [List.set_set, List.length_set, h, getD_it, List.getElem_set_self]
theorem copied_it {l : List It} {n k : Nat} (h : k < l.length) (hn : k < n) (z : It) : (l.take k ++ List.replicate (n - k) z).set k (l.getD k it0) = l.take (k + 1) ++ List.replicate (n - (k + 1)) z := by
  have e1 : n - k = (n - (k + 1)) + 1 := by omega
  have e2 : (l.take k).length = k := by rw [List.length_take]; omega
  rw [e1, List.replicate_succ, List.set_append_right _ _ (by omega), e2, Nat.sub_self, List.set_cons_zero, List.take_succ_eq_append_getElem h, List.append_assoc]
  simp [List.getD, h]
/-- the texts, the blobs of a row of items -/
abbrev itB (p : It) : Bl := (p.1, p.2.1)
abbrev itBs (l : List It) : List Bl := l.map itB
abbrev itTx (l : List It) : List ByteArray := l.map fun p => p.2.1
theorem itTx_blobs (l : List It) : (itBs l).map Prod.snd = itTx l := by simp [itBs, itTx]
theorem itTx_get {l : List It} {k : Nat} (h : k < l.length) : (itTx l).getD k ByteArray.empty = (l.getD k it0).2.1 := by simp [itTx, List.getD, h]
theorem itBs_get {l : List It} {k : Nat} (h : k < l.length) : (itBs l).getD k bl0 = itB (l.getD k it0) := by simp [itBs, List.getD, h]
end Go.Proofs.Ytfoncmeplofedaf

namespace Go.Proofs.Ytfoncmeplofedaf
open Go.RowKit

/-- one byte more -/
def dStep (h b : Int) : Int := (h * 1000003 + b + 1) % 2147483647
def digL (bs : List Int) : Int := bs.foldl dStep 1
def dTold (h : Int) : Int := if h = 0 then 1 else h
/-- what a text's digest is -/
def digest (s : ByteArray) : Int := dTold (digL (byts s))

theorem dStep_in (h b : Int) : 0 ≤ dStep h b ∧ dStep h b ≤ 2147483646 := by
  unfold dStep; omega
theorem digL_in (bs : List Int) : 0 ≤ digL bs ∧ digL bs ≤ 2147483646 := by
  unfold digL
  suffices H : ∀ h, 0 ≤ h ∧ h ≤ 2147483646 → 0 ≤ bs.foldl dStep h ∧ bs.foldl dStep h ≤ 2147483646 from H 1 (by omega)
  induction bs with
  | nil => exact fun h hh => hh
  | cons b r ih => exact fun h _ => ih _ (dStep_in h b)
theorem digL_snoc (bs : List Int) (k : Nat) (hk : k < bs.length) : digL (bs.take (k + 1)) = dStep (digL (bs.take k)) (bs.getD k 0) := by
  rw [take_snoc bs 0 k hk]
  simp [digL]
theorem digest_in (s : ByteArray) : 1 ≤ digest s ∧ digest s ≤ 2147483646 := by
  have := digL_in (byts s)
  unfold digest dTold
  split <;> omega

theorem with_any (h b : Int) (w : World) (h0 : 0 ≤ h) (h1 : h ≤ 2147483646) (b0 : 0 ≤ b) (b1 : b ≤ 255) :
    Calls Try.prog 45 #[.int .i64 h, .int .u8 b] w fun e w' => e = .returned (.int .i64 (dStep h b)) ∧ w' = w := by
  go_enter Try.func45, Try.ntmps45
  go_wp2
  go_ret
  exact ⟨ret_int (by unfold dStep; rfl), rfl⟩

theorem told_any (h : Int) (w : World) :
    Calls Try.prog 46 #[.int .i64 h] w fun e w' => e = .returned (.int .i64 (dTold h)) ∧ w' = w := by
  by_cases hh : h = 0
  · subst hh
    go_enter Try.func46, Try.ntmps46
    go_wp2
    go_ret
    exact ⟨rfl, rfl⟩
  · have e : dTold h = h := by unfold dTold; rw [if_neg hh]
    rw [e]
    clear e
    go_enter Try.func46, Try.ntmps46
    go_wp2
    go_ret
    exact ⟨rfl, rfl⟩

/-- a byte of a text -/
theorem str_at (s : ByteArray) (k : Nat) (hk : k < s.size) : ∀ W : World, (Instr.index 9 (.string s) (.int .i64 (k : Int))).run Try.prog W = .ok (.int .u8 ((byts s).getD k 0)) W := fun W => by
  rw [run_index_string W 9 s .i64 k Try.underlying9, dif_pos ⟨by omega, by omega⟩, byts_get s k hk]
  rfl

theorem folded_any (s : ByteArray) (w : World) (hs : s.size ≤ 9223372036854775807) :
    Calls Try.prog 44 #[.string s, .int .i64 1, .func (.func 45) #[] #[]] w fun e w' => e = .returned (.int .i64 (digL (byts s))) ∧ w' = w := by
  have hbl := byts_len s
  have HB : Hid ((byts s).length = s.size) := hbl
  clear hbl
  go_enter Try.func44, Try.ntmps44
  go_wp2
  go_loop [1, 10] (fun q i => ∃ k : Nat, k ≤ s.size ∧ q = .int .i64 (digL ((byts s).take k)) ∧ i = .int .i64 k) (fun _ i => s.size - (intOf i).toNat)
  case atStart => exact ⟨0, Nat.zero_le _, rfl, rfl⟩
  case round =>
    obtain ⟨k, hk, rfl, rfl⟩ := hrel
    by_cases hlt : k < s.size
    · have hx := str_at s k hlt
      have hr := byts_range s k
      have hd := digL_in ((byts s).take k)
      have hst : Hid (digL ((byts s).take (k + 1)) = dStep (digL ((byts s).take k)) ((byts s).getD k 0)) := digL_snoc _ k (by rw [HB.out]; exact hlt)
      obtain ⟨x, hxx⟩ : ∃ x, x = (byts s).getD k 0 := ⟨_, rfl⟩
      rw [← hxx] at hx hr hst
      obtain ⟨d, hdd⟩ : ∃ d, d = digL ((byts s).take k) := ⟨_, rfl⟩
      rw [← hdd] at hd hst ⊢
      clear hxx hdd
      obtain ⟨hr0, hr1⟩ := hr
      obtain ⟨hd0, hd1⟩ := hd
      go_wp2_with fail
      refine (with_any d x _ hd0 hd1 hr0 hr1).mono ?_
      rintro e w' ⟨rfl, rfl⟩
      go_wp2
      go_round
      case rel => exact ⟨k + 1, by omega, by rw [hst.out], by go_num⟩
      case measure => simp [intOf]; omega
    · have e : digL ((byts s).take k) = digL (byts s) := by rw [List.take_of_length_le (by rw [HB.out]; omega)]
      rw [e]
      clear e
      go_wp2
      go_ret
      exact ⟨rfl, rfl⟩

theorem implDigest_any (s : ByteArray) (w : World) (hs : s.size ≤ 9223372036854775807) :
    Calls Try.prog 22 #[.string s] w fun e w' => e = .returned (.int .i64 (digest s)) ∧ w' = w := by
  have hd : Hid (digest s = dTold (digL (byts s))) := rfl
  go_enter Try.func22, Try.ntmps22
  go_wp2_with fail
  refine (folded_any s _ hs).mono ?_
  rintro e w1 ⟨rfl, rfl⟩
  go_wp2_with fail
  refine (told_any _ _).mono ?_
  rintro e w2 ⟨rfl, rfl⟩
  rw [← hd.out]
  go_wp2
  go_ret
  exact ⟨rfl, rfl⟩

theorem max_any (h : Int) (w : World) (h0 : 0 ≤ h) :
    Calls Try.prog 28 #[.int .i64 1, .int .i64 h] w fun e w' => e = .returned (.int .i64 (dTold h)) ∧ w' = w := by
  by_cases hh : h = 0
  · subst hh
    go_enter Try.func28, Try.ntmps28
    go_wp2
    go_ret
    exact ⟨rfl, rfl⟩
  · have e : dTold h = h := by unfold dTold; rw [if_neg hh]
    rw [e]
    clear e
    go_enter Try.func28, Try.ntmps28
    go_wp2
    go_ret
    exact ⟨rfl, rfl⟩

theorem specDigest_any (s : ByteArray) (w : World) (hs : s.size ≤ 9223372036854775807) :
    Calls Try.prog 24 #[.string s] w fun e w' => e = .returned (.int .i64 (digest s)) ∧ w' = w := by
  have HB : Hid ((byts s).length = s.size) := byts_len s
  have hD : Hid (digest s = dTold (digL (byts s))) := rfl
  go_enter Try.func24, Try.ntmps24
  go_wp2
  go_loop [3, 4] (fun q i => ∃ k : Nat, k ≤ s.size ∧ q = .int .i64 (digL ((byts s).take k)) ∧ i = .int .i64 k) (fun _ i => s.size - (intOf i).toNat)
  case atStart => exact ⟨0, Nat.zero_le _, rfl, rfl⟩
  case round =>
    obtain ⟨k, hk, rfl, rfl⟩ := hrel
    by_cases hlt : k < s.size
    · have hx := str_at s k hlt
      have hr := byts_range s k
      have hd := digL_in ((byts s).take k)
      have hst : Hid (digL ((byts s).take (k + 1)) = dStep (digL ((byts s).take k)) ((byts s).getD k 0)) := digL_snoc _ k (by rw [HB.out]; exact hlt)
      obtain ⟨x, hxx⟩ : ∃ x, x = (byts s).getD k 0 := ⟨_, rfl⟩
      rw [← hxx] at hx hr hst
      obtain ⟨d, hdd⟩ : ∃ d, d = digL ((byts s).take k) := ⟨_, rfl⟩
      rw [← hdd] at hd hst ⊢
      clear hxx hdd
      obtain ⟨hr0, hr1⟩ := hr
      obtain ⟨hd0, hd1⟩ := hd
      go_wp2
      go_round
      case rel => exact ⟨k + 1, by omega, by rw [hst.out]; rfl, by go_num⟩
      case measure => simp [intOf]; omega
    · have e : digL ((byts s).take k) = digL (byts s) := by rw [List.take_of_length_le (by rw [HB.out]; omega)]
      rw [e]
      clear e
      have hd0 := (digL_in (byts s)).1
      obtain ⟨d, hdd⟩ : ∃ d, d = digL (byts s) := ⟨_, rfl⟩
      rw [← hdd] at hd0 hD ⊢
      clear hdd
      go_wp2_with fail
      refine (max_any d _ hd0).mono ?_
      rintro e w2 ⟨rfl, rfl⟩
      rw [← hD.out]
      go_wp2
      go_ret
      exact ⟨rfl, rfl⟩

theorem same_of {a b : ByteArray} (h : a.toList = b.toList) : a = b := by
  rw [ByteArray.toList_eq, ByteArray.toList_eq] at h
  exact ByteArray.ext (Array.toList_inj.1 h)

/-- do two texts clash? -/
def clashB (a b : ByteArray) : Bool := !a.toList == b.toList && digest a == digest b
theorem clashB_iff (a b : ByteArray) : clashB a b = true ↔ a ≠ b ∧ digest a = digest b := by
  unfold clashB
  constructor
  · intro h
    simp at h
    exact ⟨fun e => h.1 (by rw [e]), h.2⟩
  · rintro ⟨h1, h2⟩
    have h3 : ¬ a.toList = b.toList := fun e => h1 (same_of e)
    simp [h2, h3]
theorem clashB_comm (a b : ByteArray) : clashB a b = clashB b a := by
  rw [Bool.eq_iff_iff, clashB_iff, clashB_iff]
  exact ⟨fun h => ⟨fun e => h.1 e.symm, h.2.symm⟩, fun h => ⟨fun e => h.1 e.symm, h.2.symm⟩⟩



end Go.Proofs.Ytfoncmeplofedaf

namespace Go.Proofs.Ytfoncmeplofedaf
open Go.RowKit Go.Maps

/-- does one of the first n clash with one ahead of it? -/
def clashN (xs : List ByteArray) (n : Nat) : Bool := (List.range n).any fun i => (List.range i).any fun k => clashB (xs.getD i ByteArray.empty) (xs.getD k ByteArray.empty)
def clashesB (xs : List ByteArray) : Bool := clashN xs xs.length

theorem clashN_iff (xs : List ByteArray) (n : Nat) : clashN xs n = true ↔ ∃ i k, i < n ∧ k < i ∧ clashB (xs.getD i ByteArray.empty) (xs.getD k ByteArray.empty) = true := by
  unfold clashN
  simp only [List.any_eq_true, List.mem_range]
  constructor
  · rintro ⟨i, hi, k, hk, h⟩; exact ⟨i, k, hi, hk, h⟩
  · rintro ⟨i, k, hi, hk, h⟩; exact ⟨i, hi, k, hk, h⟩
theorem clashN_not {xs : List ByteArray} {n : Nat} (h : ∀ i k, i < n → k < i → clashB (xs.getD i ByteArray.empty) (xs.getD k ByteArray.empty) = false) : clashN xs n = false := by
  cases hc : clashN xs n with
  | false => rfl
  | true =>
    obtain ⟨i, k, hi, hk, hck⟩ := (clashN_iff xs n).1 hc
    rw [h i k hi hk] at hck
    cases hck
theorem clashesB_of {xs : List ByteArray} {i k : Nat} (hi : i < xs.length) (hk : k < i) (h : clashB (xs.getD i ByteArray.empty) (xs.getD k ByteArray.empty) = true) : clashesB xs = true :=
  (clashN_iff xs xs.length).2 ⟨i, k, hi, hk, h⟩

/-- none of the first n clashes with another one of them -/
def Calm (xs : List ByteArray) (n : Nat) : Prop := ∀ i k, i < n → k < n → digest (xs.getD i ByteArray.empty) = digest (xs.getD k ByteArray.empty) → xs.getD i ByteArray.empty = xs.getD k ByteArray.empty
theorem calm_not {xs : List ByteArray} (h : Calm xs xs.length) : clashesB xs = false :=
  clashN_not fun i k hi hk => by
    cases hc : clashB (xs.getD i ByteArray.empty) (xs.getD k ByteArray.empty) with
    | false => rfl
    | true =>
      obtain ⟨h1, h2⟩ := (clashB_iff _ _).1 hc
      exact absurd (h i k hi (by omega) h2) h1
theorem calm_step {xs : List ByteArray} {n : Nat} (h : Calm xs n) (hn : ∀ k, k < n → digest (xs.getD k ByteArray.empty) = digest (xs.getD n ByteArray.empty) → xs.getD k ByteArray.empty = xs.getD n ByteArray.empty) : Calm xs (n + 1) := by
  intro i k hi hk he
  by_cases h1 : i = n
  · subst h1
    by_cases h2 : k = i
    · subst h2; rfl
    · exact (hn k (by omega) he.symm).symm
  · by_cases h2 : k = n
    · subst h2; exact hn i (by omega) he
    · exact h i k (by omega) (by omega) he

/-- what the map holds: of each digest among the first n the place of a text of that digest -/
def Firsts (D : DataW Unit) (xs : List ByteArray) (n : Nat) : Prop :=
  ∀ d : Int, (has D (.int .i64 d) = true → ∃ j, j < n ∧ digest (xs.getD j ByteArray.empty) = d ∧ D.atKey (.int .i64 d) (.lit (.int .i64 0)) = .lit (.int .i64 (j : Int))) ∧
    (has D (.int .i64 d) = false → ∀ j, j < n → digest (xs.getD j ByteArray.empty) ≠ d)

theorem keyL {d : Int} : WideAt.IsKeyLit (.int .i64 d) := by first | trivial | simp [WideAt.IsKeyLit]
theorem ret_bool {a b : Bool} (h : a = b) : Ending.returned (.bool a) = .returned (.bool b) := by rw [h]
theorem firsts_start (xs : List ByteArray) : Firsts (.map []) xs 0 := fun d => ⟨fun h => by simp [has] at h, fun _ j hj => by omega⟩
theorem firsts_known {D : DataW Unit} {xs : List ByteArray} {n : Nat} (h : Firsts D xs n) (hk : has D (.int .i64 (digest (xs.getD n ByteArray.empty))) = true) : Firsts D xs (n + 1) := fun d => by
  refine ⟨fun hd => ?_, fun hd j hj => ?_⟩
  · obtain ⟨j, h1, h2, h3⟩ := (h d).1 hd
    exact ⟨j, by omega, h2, h3⟩
  · by_cases e : j = n
    · subst e
      intro e2
      rw [e2, hd] at hk
      cases hk
    · exact (h d).2 hd j (by omega)
theorem firsts_new {D : DataW Unit} {xs : List ByteArray} {n : Nat} (h : Firsts D xs n) (hm : IsMap D) : Firsts (D.put (.int .i64 (digest (xs.getD n ByteArray.empty))) (.lit (.int .i64 (n : Int)))) xs (n + 1) := fun d => by
  by_cases e : d = digest (xs.getD n ByteArray.empty)
  · subst e
    refine ⟨fun _ => ⟨n, by omega, rfl, ?_⟩, fun hd => ?_⟩
    · exact atKey_put_same hm keyL _ _
    · rw [has_put_same hm keyL] at hd
      cases hd
  · have hne : (Lit.int .i64 d) ≠ Lit.int .i64 (digest (xs.getD n ByteArray.empty)) := fun h2 => e (by injection h2)
    rw [has_put_other hne, atKey_put_other hne]
    refine ⟨fun hd => ?_, fun hd j hj => ?_⟩
    · obtain ⟨j, h1, h2, h3⟩ := (h d).1 hd
      exact ⟨j, by omega, h2, h3⟩
    · by_cases e3 : j = n
      · subst e3; exact fun h4 => e h4.symm
      · exact (h d).2 hd j (by omega)

theorem getD_size {xs : List ByteArray} {B : Nat} (hs : ∀ s ∈ xs, s.size ≤ B) (k : Nat) : (xs.getD k ByteArray.empty).size ≤ B := by
  by_cases hk : k < xs.length
  · have e : xs.getD k ByteArray.empty = xs[k] := by simp [List.getD, hk]
    rw [e]; exact hs _ (List.getElem_mem hk)
  · have e : xs.getD k ByteArray.empty = ByteArray.empty := by rw [List.getD, List.getElem?_eq_none (Nat.le_of_not_lt hk)]; rfl
    rw [e]; exact Nat.zero_le _

theorem lawK : Keyed Try.prog 2 := int_keyed Try.underlying2
theorem zeroE (w : World) : (zeroValue 3).run Try.prog w = .ok (.int .i64 0) w := by kernel_rfl

theorem key_wf (s : ByteArray) : (Lit.int .i64 (digest s)).wf = true := by
  have := digest_in s
  simp [Lit.wf, IntKind.min, IntKind.max, IntKind.signed, IntKind.bits]
  omega

theorem implClashes_any (va : Value) (xs : List ByteArray) (w : World) (ha : Rd w va (cellsS xs)) (hl : xs.length ≤ 1048576) (hs : ∀ s ∈ xs, s.size ≤ 9223372036854775807) :
    Calls Try.prog 11 #[va] w fun e w' => e = .returned (.bool (clashesB xs)) ∧ Below w.heap.size w w' := by
  have hla : (cellsS xs).length = xs.length := by simp
  have hmm := @run_makeMap Try.prog
  rcases rd_cases ha with ⟨h0, ao, cap, rfl⟩ | ⟨hp, b, off, cap, rfl, _, hlt, hc⟩
  · have hx : xs = [] := by simpa using h0
    subst hx
    have hb : Below w.heap.size w (w.alloc (.map #[] 0)) := (Below.refl _ _).alloc (Nat.le_refl _) _
    go_enter Try.func11, Try.ntmps11
    go_wp2
    refine wp_loop_rounds 1 ?_
    rw [rounds_succ]
    go_wp2
    go_ret
    exact ⟨rfl, hb⟩
  · rw [hla] at hc hp ⊢
    obtain ⟨n, hn⟩ : ∃ n, n = xs.length := ⟨_, rfl⟩
    rw [← hn] at hc hp hl ⊢
    have HN : Hid (n = xs.length) := hn
    have HS : Hid (∀ k, (xs.getD k ByteArray.empty).size ≤ 9223372036854775807) := getD_size hs
    have HA : Hid (∀ j, j < n → w.cell? ⟨b, off + j, none⟩ = some (.string (xs.getD j ByteArray.empty))) := fun j hj => (hc j hj).trans (strs_get xs j (by omega))
    have hb0 : Below w.heap.size w (w.alloc (.map #[] 0)) := (Below.refl _ _).alloc (Nat.le_refl _) _
    clear hc hla ha hn hs
    go_enter Try.func11, Try.ntmps11
    go_wp2
    go_loopw [12] (fun i wr => ∃ (k : Nat) (D : DataW Unit), k ≤ n ∧ i = .int .i64 k ∧ wr.ownsMap Try.prog 2 (plainElem Try.prog 3) w.heap.size k D ∧ Below w.heap.size w wr ∧ Hid (Firsts D xs k) ∧ Hid (Calm xs k)) (fun i _ => n - (intOf i).toNat)
    case atStart => exact ⟨0, .map [], Nat.zero_le _, rfl, World.ownsMap_made _ _ _ _, hb0, firsts_start xs, fun i k hi => by omega⟩
    case round =>
      obtain ⟨k, D, hk, rfl, hown, hb, hF, hC⟩ := hrel
      clear hb0
      by_cases hltk : k < n
      · have hca : wr.cell? ⟨b, off + k, none⟩ = some (.string (xs.getD k ByteArray.empty)) := (hb.cell (p := ⟨b, off + k, none⟩) hlt).trans (HA.out k hltk)
        have hsz := HS.out k
        have hkey : keyOf Try.prog 2 (.int .i64 (digest (xs.getD k ByteArray.empty))) = some (.int .i64 (digest (xs.getD k ByteArray.empty))) := keyOf_int_mk Try.underlying2 (key_wf _)
        have hF1 := hF.out (digest (xs.getD k ByteArray.empty))
        have hF2 : Hid (has D (.int .i64 (digest (xs.getD k ByteArray.empty))) = true → Firsts D xs (k + 1)) := fun h => firsts_known hF.out h
        have hF3 : Hid (Firsts (D.put (.int .i64 (digest (xs.getD k ByteArray.empty))) (.lit (.int .i64 (k : Int)))) xs (k + 1)) := firsts_new hF.out hown.isMap
        have hW : (Lit.int .i64 (k : Int)).wf = true := WalkArith.wf_i64 (by omega)
        obtain ⟨x, hxx⟩ : ∃ x, x = xs.getD k ByteArray.empty := ⟨_, rfl⟩
        have HX : Hid (x = xs.getD k ByteArray.empty) := hxx
        rw [← hxx] at hca hsz hkey hF1 hF2 hF3
        clear hxx
        cases hh : has D (.int .i64 (digest x)) with
        | true =>
          obtain ⟨j, hj, hdj, hat0⟩ := hF1.1 hh
          have hcj : wr.cell? ⟨b, off + j, none⟩ = some (.string (xs.getD j ByteArray.empty)) := (hb.cell (p := ⟨b, off + j, none⟩) hlt).trans (HA.out j (by omega))
          have HF : Hid (Firsts D xs (k + 1)) := hF2.out hh
          obtain ⟨y, hyy⟩ : ∃ y, y = xs.getD j ByteArray.empty := ⟨_, rfl⟩
          have HY : Hid (y = xs.getD j ByteArray.empty) := hyy
          rw [← hyy] at hcj hdj
          have HD : Hid (digest y = digest x) := hdj
          clear hyy hdj hF1 hF2 hF3
          by_cases hyx : y = x
          focus
            subst hyx
            have HC : Hid (Calm xs (k + 1)) := calm_step hC.out (fun i hi hd => by
              rw [← HX.out] at hd ⊢
              exact (hC.out i j hi hj (by rw [hd, ← HY.out])).trans HY.out.symm)
            clear hC hF
          rotate_left
          focus
            have hne0 : ¬ y.toList = x.toList := fun h => hyx (same_of h)
            have hne : (!y.toList == x.toList) = true := by simp [hne0]
            clear hne0
            have HE : Hid (clashesB xs = true) := clashesB_of (i := k) (k := j) (by have := HN.out; omega) hj (by
              rw [← HX.out, ← HY.out]
              exact (clashB_iff _ _).2 ⟨fun h => hyx h.symm, HD.out.symm⟩)
            clear hC hF HF
          rotate_left
          all_goals
            clear HX HY HD
            go_wp2_with fail
            refine (implDigest_any _ _ hsz).mono ?_
            rintro e w1 ⟨rfl, rfl⟩
            go_wp2_with (first
              | (at_lookup; refine wpList_lookup_own_ok_int _ rfl _ _ 54 rfl 2 3 .i64 lawK Try.underlying54 Try.underlying3 (zeroE _) _ k D rfl hown _ _ rfl hkey ?_; intro c hat hwc; rw [hh]; obtain rfl : c = (j : Int) := by (have h := hat.symm.trans hat0; simpa using h))
              | go_in)
          · go_roundw
            case rel => exact ⟨k + 1, D, by omega, by go_num, hown.mono (by omega), hb, HF, HC⟩
            case measure => simp [intOf]; omega
          · go_ret
            exact ⟨ret_bool HE.out.symm, hb⟩
        | false =>
          have hno := hF1.2 hh
          have HC : Hid (Calm xs (k + 1)) := calm_step hC.out (fun i hi hd => by
            rw [← HX.out] at hd
            exact absurd hd (hno i hi))
          clear hF1 hF2 hF hC HX hno
          go_wp2_with fail
          refine (implDigest_any x _ hsz).mono ?_
          rintro e w1 ⟨rfl, rfl⟩
          go_wp2_with (first
            | (at_lookup; refine wpList_lookup_own_ok_int _ rfl _ _ 54 rfl 2 3 .i64 lawK Try.underlying54 Try.underlying3 (zeroE _) _ k D rfl hown _ _ rfl hkey ?_; intro c hat hwc; rw [hh])
            | (at_mapUpdate; refine wpList_mapUpdate_own _ rfl _ _ _ 54 rfl 2 3 lawK Try.underlying54 _ _ k _ rfl hown (by unfold maxLen; omega) _ _ _ rfl rfl hkey _ [] (plainElem_int Try.underlying3 hW) ?_; intro w2 hown2 hgrow2)
            | go_in)
          go_roundw
          case rel => exact ⟨k + 1, _, by omega, by go_num, hown2, hb.grown hgrow2 hb.size (fun j hj => by cases hj; exact Nat.le_refl _), hF3, HC⟩
          case measure => simp [intOf]; omega
      · obtain rfl : k = n := by omega
        have hCN := hC.out
        rw [HN.out] at hCN
        have HE : Hid (clashesB xs = false) := calm_not hCN
        clear hCN hF hC hown
        go_wp2
        go_ret
        exact ⟨ret_bool HE.out.symm, hb⟩


end Go.Proofs.Ytfoncmeplofedaf

namespace Go.Proofs.Ytfoncmeplofedaf
/-- a store -/
def Sto (l : List Bl) : Prop := l.length ≤ 300 ∧ (∀ p ∈ l, p.2.size ≤ 2000 ∧ p.1 = digest p.2) ∧ l.Pairwise (fun p q => p.1 < q.1)
def okAt (l : List Bl) (i : Nat) : Bool := decide ((l.getD i bl0).2.size ≤ 2000) && (decide ((l.getD i bl0).1 = digest (l.getD i bl0).2) && (decide (i = 0) || decide ((l.getD (i - 1) bl0).1 < (l.getD i bl0).1)))
def storeB (l : List Bl) : Bool := decide (l.length ≤ 300) && (List.range l.length).all (okAt l)
theorem getD_at {l : List Bl} {i : Nat} (h : i < l.length) : l.getD i bl0 = l[i] := by simp [List.getD, h]
theorem okAt_iff {l : List Bl} {i : Nat} : okAt l i = true ↔ (l.getD i bl0).2.size ≤ 2000 ∧ (l.getD i bl0).1 = digest (l.getD i bl0).2 ∧ (i = 0 ∨ (l.getD (i - 1) bl0).1 < (l.getD i bl0).1) := by
  unfold okAt
  simp only [Bool.and_eq_true, Bool.or_eq_true, decide_eq_true_eq]
theorem rise_of {l : List Bl} (h : ∀ i, 0 < i → i < l.length → (l.getD (i - 1) bl0).1 < (l.getD i bl0).1) : l.Pairwise (fun p q => p.1 < q.1) := by
  refine List.pairwise_iff_getElem.2 fun i j hi hj hij => ?_
  obtain ⟨k, rfl⟩ : ∃ k, j = i + 1 + k := ⟨j - i - 1, by omega⟩
  induction k with
  | zero =>
    have := h (i + 1) (by omega) (by omega)
    rw [Nat.add_sub_cancel, getD_at hi, getD_at (by omega)] at this
    exact this
  | succ k ih =>
    have h1 := ih (by omega) (by omega)
    have h2 := h (i + 1 + (k + 1)) (by omega) hj
    rw [show i + 1 + (k + 1) - 1 = i + 1 + k by omega, getD_at (show i + 1 + k < l.length by omega), getD_at hj] at h2
    omega
theorem storeB_iff {l : List Bl} : storeB l = true ↔ Sto l := by
  unfold storeB Sto
  rw [Bool.and_eq_true, decide_eq_true_eq, List.all_eq_true]
  constructor
  · rintro ⟨h1, h2⟩
    have h3 : ∀ i, i < l.length → okAt l i = true := fun i hi => h2 i (List.mem_range.2 hi)
    refine ⟨h1, fun p hp => ?_, rise_of fun i h0 hi => ?_⟩
    · obtain ⟨i, hi, rfl⟩ := List.getElem_of_mem hp
      have := okAt_iff.1 (h3 i hi)
      rw [getD_at hi] at this
      exact ⟨this.1, this.2.1⟩
    · rcases (okAt_iff.1 (h3 i hi)).2.2 with g | g
      · omega
      · exact g
  · rintro ⟨h1, h2, h3⟩
    refine ⟨h1, fun i hi => ?_⟩
    have hi := List.mem_range.1 hi
    obtain ⟨g1, g2⟩ := h2 l[i] (List.getElem_mem hi)
    refine okAt_iff.2 ⟨by rw [getD_at hi]; exact g1, by rw [getD_at hi]; exact g2, ?_⟩
    by_cases h0 : i = 0
    · exact Or.inl h0
    · right
      have := List.pairwise_iff_getElem.1 h3 (i - 1) i (by omega) hi (by omega)
      rw [getD_at hi, getD_at (show i - 1 < l.length by omega)]
      exact this
theorem storeB_len {l : List Bl} (h : ¬ l.length ≤ 300) : storeB l = false := by unfold storeB; rw [decide_eq_false h, Bool.false_and]
theorem storeB_at {l : List Bl} {i : Nat} (hi : i < l.length) (h : okAt l i = false) : storeB l = false := by
  cases hs : storeB l with
  | false => rfl
  | true =>
    unfold storeB at hs
    rw [Bool.and_eq_true, List.all_eq_true] at hs
    rw [hs.2 i (List.mem_range.2 hi)] at h
    cases h
theorem storeB_all {l : List Bl} (h : l.length ≤ 300) (k : ∀ i, i < l.length → okAt l i = true) : storeB l = true := by
  unfold storeB
  rw [decide_eq_true h, Bool.true_and, List.all_eq_true]
  exact fun i hi => k i (List.mem_range.1 hi)

/-- the blob of a digest -/
def findB (l : List Bl) (d : Int) : Option Bl := l.find? fun p => p.1 == d
theorem findB_some {l : List Bl} {d : Int} {p : Bl} (h : findB l d = some p) : p ∈ l ∧ p.1 = d := ⟨List.mem_of_find?_eq_some h, by have := List.find?_some h; simpa using this⟩
theorem findB_none {l : List Bl} {d : Int} : findB l d = none ↔ ∀ p ∈ l, p.1 ≠ d := by
  unfold findB
  rw [List.find?_eq_none]
  simp
theorem rise_eq {l : List Bl} (h : l.Pairwise (fun p q => p.1 < q.1)) {p q : Bl} (hp : p ∈ l) (hq : q ∈ l) (e : p.1 = q.1) : p = q := by
  obtain ⟨i, hi, rfl⟩ := List.getElem_of_mem hp
  obtain ⟨j, hj, rfl⟩ := List.getElem_of_mem hq
  rcases Nat.lt_trichotomy i j with g | g | g
  · have := List.pairwise_iff_getElem.1 h i j hi hj g; omega
  · subst g; rfl
  · have := List.pairwise_iff_getElem.1 h j i hj hi g; omega
theorem findB_mem {l : List Bl} (h : l.Pairwise (fun p q => p.1 < q.1)) {p : Bl} (hp : p ∈ l) : findB l p.1 = some p := by
  cases hf : findB l p.1 with
  | none => exact absurd rfl (findB_none.1 hf p hp)
  | some q =>
    obtain ⟨h1, h2⟩ := findB_some hf
    rw [rise_eq h h1 hp h2]
/-- in its place -/
def insB (l : List Bl) (p : Bl) : List Bl := (l.filter fun q => decide (q.1 < p.1)) ++ p :: l.filter fun q => decide (p.1 < q.1)
theorem insB_mem {l : List Bl} {p q : Bl} (hn : ∀ x ∈ l, x.1 ≠ p.1) : q ∈ insB l p ↔ q = p ∨ q ∈ l := by
  unfold insB
  rw [List.mem_append, List.mem_cons, List.mem_filter, List.mem_filter, decide_eq_true_eq, decide_eq_true_eq]
  constructor
  · rintro (h | h | h)
    · exact Or.inr h.1
    · exact Or.inl h
    · exact Or.inr h.1
  · rintro (h | h)
    · exact Or.inr (Or.inl h)
    · rcases Int.lt_trichotomy q.1 p.1 with g | g | g
      · exact Or.inl ⟨h, g⟩
      · exact absurd g (hn q h)
      · exact Or.inr (Or.inr ⟨h, g⟩)
theorem insB_rise {l : List Bl} {p : Bl} (h : l.Pairwise (fun p q => p.1 < q.1)) : (insB l p).Pairwise (fun p q => p.1 < q.1) := by
  unfold insB
  refine List.pairwise_append.2 ⟨h.filter _, List.pairwise_cons.2 ⟨fun q hq => ?_, h.filter _⟩, fun a ha b hb => ?_⟩
  · exact of_decide_eq_true (List.mem_filter.1 hq).2
  · have h1 := of_decide_eq_true (List.mem_filter.1 ha).2
    rcases List.mem_cons.1 hb with rfl | hb
    · exact h1
    · have h2 := of_decide_eq_true (List.mem_filter.1 hb).2
      omega
theorem insB_len {l : List Bl} {p : Bl} (hn : ∀ x ∈ l, x.1 ≠ p.1) : (insB l p).length = l.length + 1 := by
  unfold insB
  rw [List.length_append, List.length_cons]
  have : ∀ l : List Bl, (∀ x ∈ l, x.1 ≠ p.1) → (l.filter fun q => decide (q.1 < p.1)).length + (l.filter fun q => decide (p.1 < q.1)).length = l.length := by
    intro l
    induction l with
    | nil => intro _; rfl
    | cons a t ih =>
      intro h
      have := ih fun x hx => h x (by simp [hx])
      have ha := h a (by simp)
      rcases Int.lt_trichotomy a.1 p.1 with g | g | g
      · rw [List.filter_cons_of_pos (by simpa using g), List.filter_cons_of_neg (by simp; omega)]
        simp
        omega
      · exact absurd g ha
      · rw [List.filter_cons_of_neg (by simp; omega), List.filter_cons_of_pos (by simpa using g)]
        simp
        omega
  have := this l hn
  omega
/-- what Put tells -/
def putT (l : List Bl) (s : ByteArray) : List Bl × Int × Int :=
  if storeB l = true then
    (if 2000 < s.size then (l, 0, 4) else
      match findB l (digest s) with
      | some p => if p.2 = s then (l, digest s, 1) else (l, 0, 2)
      | none => if l.length = 300 then (l, 0, 3) else (insB l (digest s, s), digest s, 0))
  else ([], 0, 4)
/-- what Get tells -/
def getT (l : List Bl) (d : Int) : Option ByteArray := if storeB l = true then (findB l d).map (·.2) else none
/-- what Drop tells -/
def dropT (l : List Bl) (ds : List Int) : List Bl := if storeB l = true then l.filter fun p => !(ds.contains p.1) else []
/-- those that are not there, each once -/
def missF (l : List Bl) : List Int → List Int → List Int
  | [], acc => acc
  | d :: r, acc => if (findB l d).isNone && !(acc.contains d) then missF l r (acc ++ [d]) else missF l r acc
/-- what Missing tells -/
def missT (l : List Bl) (ds : List Int) : List Int := if storeB l = true then missF l ds [] else []

theorem getT_digest {l : List Bl} {d : Int} {t : ByteArray} (h : getT l d = some t) : digest t = d := by
  unfold getT at h
  split at h
  · rename_i hs
    obtain ⟨p, hp, rfl⟩ := Option.map_eq_some_iff.1 h
    obtain ⟨h1, h2⟩ := findB_some hp
    rw [← h2, ((storeB_iff.1 hs).2.1 p h1).2]
  · cases h
theorem drop_sto {l : List Bl} {ds : List Int} (h : storeB l = true) : storeB (dropT l ds) = true := by
  unfold dropT
  rw [if_pos h]
  obtain ⟨h1, h2, h3⟩ := storeB_iff.1 h
  exact storeB_iff.2 ⟨Nat.le_trans (List.length_filter_le _ _) h1, fun p hp => h2 p (List.mem_filter.1 hp).1, h3.filter _⟩
theorem drop_none {l : List Bl} {ds : List Int} {d : Int} (h : storeB l = true) (hd : d ∈ ds) : getT (dropT l ds) d = none := by
  unfold getT
  rw [if_pos (drop_sto h)]
  have : findB (dropT l ds) d = none := findB_none.2 fun p hp e => by
    unfold dropT at hp
    rw [if_pos h] at hp
    have := (List.mem_filter.1 hp).2
    rw [e] at this
    simp [hd] at this
  rw [this]
  rfl
theorem drop_find {l : List Bl} {ds : List Int} {d : Int} (h : storeB l = true) (hn : findB l d = none) : findB (dropT l ds) d = none := by
  refine findB_none.2 fun p hp => findB_none.1 hn p ?_
  unfold dropT at hp
  rw [if_pos h] at hp
  exact (List.mem_filter.1 hp).1
/-- what is missing is missing, each once -/
theorem missF_ok {l : List Bl} : ∀ (ds acc : List Int), (∀ d ∈ acc, findB l d = none) → acc.Nodup → (∀ d ∈ missF l ds acc, findB l d = none) ∧ (missF l ds acc).Nodup
  | [], acc, h1, h2 => ⟨h1, h2⟩
  | d :: r, acc, h1, h2 => by
    unfold missF
    by_cases hc : ((findB l d).isNone && !(acc.contains d)) = true
    · rw [if_pos hc]
      rw [Bool.and_eq_true] at hc
      have hd : findB l d = none := by simpa using hc.1
      have hna : d ∉ acc := by simpa using hc.2
      refine missF_ok r _ (fun x hx => ?_) (List.nodup_append.2 ⟨h2, by simp, fun a ha b hb e => ?_⟩)
      · rcases List.mem_append.1 hx with hx | hx
        · exact h1 x hx
        · rw [List.mem_singleton.1 hx]; exact hd
      · rw [List.mem_singleton.1 hb] at e
        rw [e] at ha
        exact hna ha
    · rw [if_neg hc]
      exact missF_ok r acc h1 h2
theorem missF_all {l : List Bl} : ∀ (ds acc : List Int), (∀ d ∈ ds, findB l d = none) → (acc ++ ds).Nodup → missF l ds acc = acc ++ ds
  | [], acc, _, _ => by simp [missF]
  | d :: r, acc, h1, h2 => by
    unfold missF
    have hd : findB l d = none := h1 d (by simp)
    have hna : d ∉ acc := fun h => (List.nodup_append.1 h2).2.2 d h d (by simp) rfl
    rw [if_pos (by simp [hd, hna]), missF_all r _ (fun x hx => h1 x (by simp [hx])) (by simpa using h2)]
    simp
theorem miss_again {l : List Bl} {ds : List Int} (h : storeB l = true) : missT (dropT l ds) (missT l ds) = missT l ds := by
  obtain ⟨h1, h2⟩ := missF_ok (l := l) ds [] (fun d hd => by cases hd) (by simp)
  unfold missT
  rw [if_pos h, if_pos (drop_sto h), missF_all (l := dropT l ds) _ [] (fun d hd => drop_find h (h1 d hd)) (by simpa using h2)]
  rfl
/-- what is put is got, all else as it was -/
theorem put_ok {l : List Bl} {s : ByteArray} (h : storeB l = true) (hk : (putT l s).2.2 = 0 ∨ (putT l s).2.2 = 1) :
    storeB (putT l s).1 = true ∧ (putT l s).2.1 = digest s ∧ getT (putT l s).1 (digest s) = some s ∧ (∀ p ∈ l, getT (putT l s).1 p.1 = some p.2) ∧ ((putT l s).2.2 = 1 → (putT l s).1 = l) ∧ ((putT l s).2.2 = 0 → (putT l s).1.length = l.length + 1) := by
  obtain ⟨h1, h2, h3⟩ := storeB_iff.1 h
  have hget : ∀ (m : List Bl), storeB m = true → ∀ p ∈ m, getT m p.1 = some p.2 := fun m hm p hp => by
    unfold getT
    rw [if_pos hm, findB_mem (storeB_iff.1 hm).2.2 hp]
    rfl
  unfold putT at hk ⊢
  rw [if_pos h] at hk ⊢
  by_cases hb : 2000 < s.size
  · rw [if_pos hb] at hk
    rcases hk with hk | hk <;> cases hk
  rw [if_neg hb] at hk ⊢
  cases hf : findB l (digest s) with
  | some p =>
    rw [hf] at hk
    obtain ⟨p1, p2⟩ := findB_some hf
    by_cases hp : p.2 = s
    · simp only [if_pos hp]
      exact ⟨h, trivial, by rw [← p2, hget l h p p1, hp], fun q hq => hget l h q hq, fun _ => trivial, fun e => absurd e (by omega)⟩
    · simp only [if_neg hp] at hk
      rcases hk with hk | hk <;> cases hk
  | none =>
    rw [hf] at hk
    have hn := findB_none.1 hf
    by_cases h300 : l.length = 300
    · simp only [if_pos h300] at hk
      rcases hk with hk | hk <;> cases hk
    simp only [if_neg h300]
    have hs : storeB (insB l (digest s, s)) = true := storeB_iff.2 ⟨by rw [insB_len hn]; omega, fun q hq => by
      rcases (insB_mem hn).1 hq with rfl | hq
      · exact ⟨by show s.size ≤ 2000; omega, rfl⟩
      · exact h2 q hq, insB_rise h3⟩
    exact ⟨hs, trivial, hget _ hs (digest s, s) ((insB_mem (p := (digest s, s)) hn).2 (Or.inl rfl)), fun q hq => hget _ hs q ((insB_mem (p := (digest s, s)) hn).2 (Or.inr hq)), fun e => absurd e (by omega), fun _ => insB_len (p := (digest s, s)) hn⟩
theorem put_not {l : List Bl} {s : ByteArray} (h : storeB l = true) (hk : (putT l s).2.2 ≠ 0 ∧ (putT l s).2.2 ≠ 1) : (putT l s).1 = l ∧ (putT l s).2.1 = 0 := by
  unfold putT at hk ⊢
  rw [if_pos h] at hk ⊢
  by_cases hb : 2000 < s.size
  · rw [if_pos hb]
    exact ⟨rfl, rfl⟩
  rw [if_neg hb] at hk ⊢
  cases hf : findB l (digest s) with
  | some p =>
    rw [hf] at hk
    by_cases hp : p.2 = s
    · simp only [if_pos hp] at hk
      exact absurd rfl hk.2
    · simp only [if_neg hp]
      exact ⟨trivial, trivial⟩
  | none =>
    rw [hf] at hk
    by_cases h300 : l.length = 300
    · simp only [if_pos h300]
      exact ⟨trivial, trivial⟩
    · simp only [if_neg h300] at hk
      exact absurd rfl hk.1
/-- two stores of one content are alike -/
theorem rise_same : ∀ {l m : List Bl}, l.Pairwise (fun p q => p.1 < q.1) → m.Pairwise (fun p q => p.1 < q.1) → (∀ p, p ∈ l ↔ p ∈ m) → l = m
  | [], [], _, _, _ => rfl
  | [], q :: m, _, _, h => by have := (h q).2 (by simp); cases this
  | p :: l, [], _, _, h => by have := (h p).1 (by simp); cases this
  | p :: l, q :: m, hl, hm, h => by
    obtain ⟨a1, a2⟩ := List.pairwise_cons.1 hl
    obtain ⟨b1, b2⟩ := List.pairwise_cons.1 hm
    have hpq : p = q := by
      rcases List.mem_cons.1 ((h p).1 (by simp)) with e | e
      · exact e
      · rcases List.mem_cons.1 ((h q).2 (by simp)) with e2 | e2
        · exact e2.symm
        · have := b1 p e
          have := a1 q e2
          omega
    subst hpq
    rw [rise_same a2 b2 fun x => ⟨fun hx => ?_, fun hx => ?_⟩]
    · rcases List.mem_cons.1 ((h x).1 (by simp [hx])) with e | e
      · have := a1 x hx
        rw [e] at this
        omega
      · exact e
    · rcases List.mem_cons.1 ((h x).2 (by simp [hx])) with e | e
      · have := b1 x hx
        rw [e] at this
        omega
      · exact e
end Go.Proofs.Ytfoncmeplofedaf

namespace Go.Proofs.Ytfoncmeplofedaf
open Go.RowKit
set_option linter.unusedVariables false
abbrev itemP (p : It) : Prop := (0 ≤ p.2.2.1 ∧ p.2.2.1 ≤ 100000) ∧ (0 ≤ p.2.2.2.1 ∧ p.2.2.2.1 ≤ p.2.2.1) ∧ (p.2.2.2.2 = true → p.2.2.2.1 = p.2.2.1)
def shelfB (r : Int) (l : List It) : Bool := decide (0 ≤ r ∧ r ≤ 100000) && (storeB (itBs l) && l.all fun p => decide (itemP p))
theorem shelfB_iff {r : Int} {l : List It} : shelfB r l = true ↔ (0 ≤ r ∧ r ≤ 100000) ∧ storeB (itBs l) = true ∧ ∀ p ∈ l, itemP p := by
  unfold shelfB
  rw [Bool.and_eq_true, Bool.and_eq_true, decide_eq_true_eq, List.all_eq_true]
  simp only [decide_eq_true_eq]
theorem shelfB_len {r : Int} {l : List It} (h : shelfB r l = true) : l.length ≤ 300 := by
  have := (storeB_iff.1 (shelfB_iff.1 h).2.1).1
  simpa using this
theorem shelfB_size {r : Int} {l : List It} (h : shelfB r l = true) : ∀ p ∈ l, p.2.1.size ≤ 2000 := fun p hp => ((storeB_iff.1 (shelfB_iff.1 h).2.1).2.1 (itB p) (List.mem_map_of_mem hp)).1
theorem shelfB_at {r : Int} {l : List It} {i : Nat} (hi : i < l.length) (h : ¬ itemP (l.getD i it0)) : shelfB r l = false := by
  cases hb : shelfB r l with
  | false => rfl
  | true =>
    have := (shelfB_iff.1 hb).2.2 l[i] (List.getElem_mem hi)
    rw [getD_it hi] at h
    exact absurd this h
theorem shelfB_all {r : Int} {l : List It} (h1 : 0 ≤ r ∧ r ≤ 100000) (h2 : storeB (itBs l) = true) (h : ∀ i, i < l.length → itemP (l.getD i it0)) : shelfB r l = true := by
  refine shelfB_iff.2 ⟨h1, h2, fun p hp => ?_⟩
  obtain ⟨i, hi, rfl⟩ := List.getElem_of_mem hp
  have := h i hi
  rwa [getD_it hi] at this
/-- all are sure -/
def syncP (p : It) : It := (p.1, p.2.1, p.2.2.1, p.2.2.1, true)
abbrev syncL (l : List It) : List It := l.map syncP
theorem sync_step {l : List It} {k : Nat} (h : k < l.length) : (syncL (l.take k) ++ l.drop k).set k (syncP (l.getD k it0)) = syncL (l.take (k + 1)) ++ l.drop (k + 1) := by
  have e2 : (syncL (l.take k)).length = k := by rw [List.length_map, List.length_take]; omega
  rw [List.drop_eq_getElem_cons h, List.set_append_right _ _ (by omega), e2, Nat.sub_self, List.set_cons_zero, List.take_succ_eq_append_getElem h, show syncL (l.take k ++ [l[k]]) = syncL (l.take k) ++ syncL [l[k]] from List.map_append, List.append_assoc, getD_it h]
  rfl
/-- what outlives a crash -/
def lostP (p : It) : Bool := decide (p.2.2.2.1 = 0) && !p.2.2.2.2
def backP (p : It) : It := (p.1, p.2.1, p.2.2.2.1, p.2.2.2.1, true)
def crashL (l : List It) : List It := (l.filter fun p => !lostP p).map backP
theorem crash_snoc (l : List It) (k : Nat) (h : k < l.length) : crashL (l.take (k + 1)) = crashL (l.take k) ++ (if lostP (l.getD k it0) = true then [] else [backP (l.getD k it0)]) := by
  unfold crashL
  rw [List.take_succ_eq_append_getElem h, List.filter_append, List.map_append, getD_it h]
  congr 1
  cases hl : lostP l[k] <;> simp [hl]
theorem crash_len (l : List It) : (crashL l).length ≤ l.length := by unfold crashL; rw [List.length_map]; exact List.length_filter_le _ _
/-- what a sweep of round r with these marks leaves -/
def stayP (r : Int) (ms : List Int) (p : It) : Bool := decide (r ≤ p.2.2.1) || ms.contains p.1
def sweptL (r : Int) (ms : List Int) (l : List It) : List It := l.filter (stayP r ms)
theorem swept_snoc (r : Int) (ms : List Int) (l : List It) (k : Nat) (h : k < l.length) : sweptL r ms (l.take (k + 1)) = sweptL r ms (l.take k) ++ (if stayP r ms (l.getD k it0) = true then [l.getD k it0] else []) := by
  unfold sweptL
  rw [List.take_succ_eq_append_getElem h, List.filter_append, getD_it h]
  congr 1
  cases hl : stayP r ms l[k] <;> simp [hl]
theorem swept_len (r : Int) (ms : List Int) (l : List It) : (sweptL r ms l).length ≤ l.length := List.length_filter_le _ _
/-- the five answers, a shelf as its round and its items -/
def syncedT (r : Int) (l : List It) : Int × List It := if shelfB r l = true then (r, syncL l) else (0, [])
def crashedT (r : Int) (l : List It) : Int × List It := if shelfB r l = true then (r, crashL l) else (0, [])
def sweptT (r : Int) (l : List It) (round : Int) (ms : List Int) : (Int × List It) × Int :=
  if shelfB r l = true then (if round < r ∨ 100000 < round then ((r, l), -1) else ((round, sweptL round ms l), (l.length : Int) - ((sweptL round ms l).length : Int))) else ((0, []), -1)
def fetchedT (r : Int) (l : List It) (d : Int) : Option ByteArray := if shelfB r l = true then getT (itBs l) d else none
end Go.Proofs.Ytfoncmeplofedaf

namespace Go.Proofs.Ytfoncmeplofedaf
open Go.RowKit

/-- what is left of l when the lengths of xs are taken off; -1 when it falls below 0 -/
def szF : List ByteArray → Int → Int
  | [], l => l
  | s :: r, l => if l - (s.size : Int) < 0 then -1 else szF r (l - (s.size : Int))
def szS (xs : List ByteArray) (l : Int) : Int := if l - (xs.length : Int) < 0 then -1 else szF xs (l - (xs.length : Int))
theorem szF_nonneg (xs : List ByteArray) : ∀ l, 0 ≤ szF xs l → 0 ≤ l → szF xs l ≤ l ∧ ∀ s ∈ xs, (s.size : Int) ≤ l := by
  induction xs with
  | nil => intro l _ _; exact ⟨Int.le_refl _, fun s hs => by cases hs⟩
  | cons s r ih =>
    intro l h h0
    rw [szF] at h ⊢
    by_cases hn : l - (s.size : Int) < 0
    · rw [if_pos hn] at h; omega
    · rw [if_neg hn] at h ⊢
      have h1 := ih _ h (by omega)
      refine ⟨by omega, fun x hx => ?_⟩
      rcases List.mem_cons.1 hx with rfl | hx
      · omega
      · have := h1.2 x hx; omega
theorem szS_nonneg {xs : List ByteArray} {l : Int} (h : 0 ≤ szS xs l) : (xs.length : Int) ≤ l ∧ ∀ s ∈ xs, (s.size : Int) ≤ l := by
  unfold szS at h
  by_cases hn : l - (xs.length : Int) < 0
  · rw [if_pos hn] at h; omega
  · rw [if_neg hn] at h
    have h1 := szF_nonneg xs _ h (by omega)
    exact ⟨by omega, fun s hs => by have := h1.2 s hs; omega⟩
theorem szF_drop (xs : List ByteArray) (k : Nat) (l : Int) (h : k < xs.length) : szF (xs.drop k) l = if l - ((xs.getD k ByteArray.empty).size : Int) < 0 then -1 else szF (xs.drop (k + 1)) (l - ((xs.getD k ByteArray.empty).size : Int)) := by
  have e : xs.drop k = xs.getD k ByteArray.empty :: xs.drop (k + 1) := by rw [List.drop_eq_getElem_cons h]; simp [List.getD, h]
  rw [e, szF]

end Go.Proofs.Ytfoncmeplofedaf

namespace Go.Proofs.Ytfoncmeplofedaf
open Go.RowKit
set_option linter.unusedVariables false
abbrev txs (l : List Bl) : List ByteArray := l.map Prod.snd
theorem txs_get {l : List Bl} {k : Nat} (h : k < l.length) : (txs l).getD k ByteArray.empty = (l.getD k bl0).2 := by simp [txs, List.getD, h]

abbrev blZ : Bl := (0, ⟨#[]⟩)
theorem made_blobs (n : Nat) : (madeCells (Value.agg #[.int .i64 0, .string ⟨#[]⟩]).cells (n * 2)).toList = blC (List.replicate n blZ) := by
  have e : ∀ m, (madeCells (Value.agg #[.int .i64 0, .string ⟨#[]⟩]).cells m).toList = (List.range m).map fun i => (#[Value.int .i64 0, Value.string ⟨#[]⟩])[i % 2]! := fun m => by simp [madeCells, Value.cells]
  rw [e]
  induction n with
  | zero => rfl
  | succ n ih =>
    rw [show (n + 1) * 2 = n * 2 + 1 + 1 by omega, List.range_succ, List.range_succ, List.map_append, List.map_append, ih, List.replicate_succ', blC_append, List.append_assoc]
    congr 1
    simp only [List.map_cons, List.map_nil, show n * 2 % 2 = 0 by omega, show (n * 2 + 1) % 2 = 1 by omega]
    rfl
theorem made_blobs2 (n : Nat) : (madeCells #[.int .i64 0, .string ⟨#[]⟩] (n * 2)).toList = blC (List.replicate n blZ) := made_blobs n
theorem copied_step {l : List Bl} {n k : Nat} (h : k < l.length) (hn : k < n) (z : Bl) : (l.take k ++ List.replicate (n - k) z).set k (l.getD k bl0) = l.take (k + 1) ++ List.replicate (n - (k + 1)) z := by
  have e1 : n - k = (n - (k + 1)) + 1 := by omega
  have e2 : (l.take k).length = k := by rw [List.length_take]; omega
  rw [e1, List.replicate_succ, List.set_append_right _ _ (by omega), e2, Nat.sub_self, List.set_cons_zero, List.take_succ_eq_append_getElem h, List.append_assoc]
  simp [List.getD, h]
theorem Try.infoBl : (Try.prog.info? 41).map (fun i => (i.zero, i.size, i.bytes)) = some (some (.agg #[.int .i64 0, .string ⟨#[]⟩]), 2, 24) := by kernel_rfl
end Go.Proofs.Ytfoncmeplofedaf

namespace Go.Proofs.Ytfoncmeplofedaf
open Go.RowKit
set_option linter.unusedVariables false
theorem ret_boolB {a b : Bool} (h : a = b) : Ending.returned (.bool a) = .returned (.bool b) := by rw [h]
end Go.Proofs.Ytfoncmeplofedaf

namespace Go.Proofs.Ytfoncmeplofedaf
open Go.RowKit
set_option linter.unusedVariables false
abbrev itV (p : It) : Value := .agg #[.int .i64 p.1, .string p.2.1, .int .i64 p.2.2.1, .int .i64 p.2.2.2.1, .bool p.2.2.2.2]
theorem Try.infoIt : (Try.prog.info? 43).map (fun i => (i.zero, i.size, i.bytes)) = some (some (.agg #[.int .i64 0, .string ⟨#[]⟩, .int .i64 0, .int .i64 0, .bool false]), 5, 48) := by kernel_rfl
abbrev OwnI (w : World) (B : Nat) (v : Value) (l : List It) : Prop := OwnG itf 5 43 w B v l
theorem alloc_sizeI (X : World) (o : Obj) : (X.alloc o).heap.size = X.heap.size + 1 := by show (X.heap.push _).size = _; rw [Array.size_push]
abbrev itZ : It := (0, ⟨#[]⟩, 0, 0, false)
theorem made_items (n : Nat) : (madeCells (Value.agg #[.int .i64 0, .string ⟨#[]⟩, .int .i64 0, .int .i64 0, .bool false]).cells (n * 5)).toList = rowC itf (List.replicate n itZ) := made_G itW (z := Value.agg #[.int .i64 0, .string ⟨#[]⟩, .int .i64 0, .int .i64 0, .bool false]) rfl n
theorem szF_neg : ∀ (l : List ByteArray) (z : Int), 0 ≤ z → szF l z = -1 ∨ 0 ≤ szF l z
  | [], z, h => Or.inr h
  | a :: t, z, h => by
    rw [szF]
    by_cases h1 : z - (a.size : Int) < 0
    · rw [if_pos h1]; exact Or.inl rfl
    · rw [if_neg h1]; exact szF_neg t _ (by omega)
theorem szS_neg (l : List ByteArray) (z : Int) : szS l z = -1 ∨ 0 ≤ szS l z := by
  unfold szS
  by_cases h : z - (l.length : Int) < 0
  · rw [if_pos h]; exact Or.inl rfl
  · rw [if_neg h]; exact szF_neg l _ (by omega)
theorem own_setCell {w : World} {B : Nat} {e : TypeId} {k : Nat} {v : Value} {n : Nat} {xs : List Value} (h : w.ownsRow B e k v n xs) {p : Addr} (hp : p.block < B) (u : Value) : (w.setCell p u).ownsRow B e k v n xs := by
  refine ⟨h.1, ?_⟩
  rcases h.2 with ⟨hv, h0⟩ | ⟨g, cap, cur, hv, hbg, hh, rest⟩
  · exact Or.inl ⟨hv, h0⟩
  · exact Or.inr ⟨g, cap, cur, hv, hbg, by rw [Below.heap_setCell _ _ _ _ (by omega)]; exact hh, rest⟩
theorem own_lower {w : World} {B B' : Nat} {e : TypeId} {k : Nat} {v : Value} {n : Nat} {xs : List Value} (h : w.ownsRow B e k v n xs) (hB : B' ≤ B) : w.ownsRow B' e k v n xs := by
  refine ⟨h.1, ?_⟩
  rcases h.2 with ⟨hv, h0⟩ | ⟨g, cap, cur, hv, hbg, rest⟩
  · exact Or.inl ⟨hv, h0⟩
  · exact Or.inr ⟨g, cap, cur, hv, Nat.le_trans hB hbg, rest⟩
end Go.Proofs.Ytfoncmeplofedaf

namespace Go.Proofs.Ytfoncmeplofedaf
open Go.RowKit
set_option linter.unusedVariables false
theorem blC_oneCell (l : List Bl) : ∀ u ∈ blC l, u.oneCell' = true := by
  intro u hu
  obtain ⟨p, _, h⟩ := List.mem_flatMap.1 hu
  simp only [List.mem_cons, List.mem_nil_iff, or_false] at h
  rcases h with rfl | rfl <;> rfl
theorem blC_at {w : World} {b off : Nat} {l : List Bl} (hc : ∀ j, j < l.length → w.cell? ⟨b, off + j * 2, none⟩ = some (.int .i64 (l.getD j bl0).1) ∧ w.cell? ⟨b, off + j * 2 + 1, none⟩ = some (.string (l.getD j bl0).2)) :
    ∀ j u, (blC l)[j]? = some u → w.cell? (Addr.add ⟨b, off, none⟩ j) = some u := by
  intro j u hu
  have hj := (List.getElem?_eq_some_iff.1 hu).1
  rw [blC_len] at hj
  obtain ⟨e0, e1⟩ := blC_get l (j / 2) (by omega)
  obtain ⟨c0, c1⟩ := hc (j / 2) (by omega)
  rw [Addr.add_lit]
  rcases Nat.mod_two_eq_zero_or_one j with h | h
  · rw [show j / 2 * 2 = j by omega] at e0 c0
    rw [e0] at hu
    rw [c0, hu]
  · rw [show j / 2 * 2 + 1 = j by omega] at e1
    rw [show off + j / 2 * 2 + 1 = off + j by omega] at c1
    rw [e1] at hu
    rw [c1, hu]
theorem run_append_blobs (w : World) (ty : TypeId) (base : Nat) (v : Value) (xs ys : List Bl) (vx : Value) (hown : w.ownsRow base 41 2 v xs.length (blC xs)) (hr : RdB w vx ys) (hb : xs.length + ys.length ≤ 1048576) (hbase : base ≤ w.heap.size) :
    ∃ v' w', (Builtin.append_ #[59, 59] ty #[v, vx]).run Try.prog w = .ok v' w' ∧ w'.ownsRow base 41 2 v' (xs.length + ys.length) (blC (xs ++ ys)) ∧ w.grownBy w' v.ownBlock := by
  obtain ⟨i0, hi, hz0, hz1, hz2⟩ := info_parts Try.infoBl
  have go : ∀ (ad : Addr) (c : Nat), vx = .slice (some ad) ys.length c → (∀ j u, (blC ys)[j]? = some u → w.cell? (ad.add j) = some u) → ∃ v' w', (Builtin.append_ #[59, 59] ty #[v, vx]).run Try.prog w = .ok v' w' ∧ w'.ownsRow base 41 2 v' (xs.length + ys.length) (blC (xs ++ ys)) ∧ w.grownBy w' v.ownBlock := fun ad c hv hc => by
    obtain ⟨v', w', h1, h2, h3, _⟩ := run_append_own (P := Try.prog) w base 59 ty 41 i0 (.agg #[.int .i64 0, .string ⟨#[]⟩]) 2 24 Try.underlying59 hi hz0 hz1 hz2 rfl (by decide) v xs.length (blC xs) hown ad ys.length c (blC ys) (blC_len ys) hc (blC_oneCell ys) (by unfold maxLen; omega) (by omega) hbase
    subst hv
    rw [← blC_append] at h2
    exact ⟨v', w', h1, h2, h3⟩
  rcases rdB_cases hr with ⟨h0, ao, cap, rfl⟩ | ⟨hp, b, off, cap, rfl, _, hlt, hc⟩
  · subst h0
    cases ao with
    | some ad => exact go ad cap rfl (fun j u hu => by cases hu)
    | none =>
      rw [List.append_nil]
      have hs : Src Try.prog i0.size 59 (.slice none 0 cap) 0 [] w := Src.ofNil w Try.underlying59 cap
      rcases hown.2 with ⟨rfl, h0⟩ | ⟨g, c, cur, rfl, hg, hh, hn, hm, hs2, ht⟩
      · rw [h0]
        exact ⟨_, w, run_append_nothing w 59 59 ty 41 i0 Try.underlying59 hi none 0 0 (Nat.le_refl _) _ hs, by simpa [h0] using hown, World.grownBy.refl _ _⟩
      · exact ⟨_, w, run_append_nothing w 59 59 ty 41 i0 Try.underlying59 hi _ _ _ hn _ hs, hown, World.grownBy.refl _ _⟩
  · exact go ⟨b, off, none⟩ cap rfl (blC_at hc)
theorem wpList_append_blobs {w : World} {ops : Array Oper} {rest : List Oper} {o : Oper} {a : Act} {Q : Exit → Act → World → Prop} (hgd : o.guard = none) (s x : Operand)
    (ho : o.op = .call { callee := .builtin .append, args := #[s, x], argTypes := #[59, 59] })
    (base : Nat) (v : Value) (xs ys : List Bl) (vx : Value) (hs : a.eval s = v) (hx : a.eval x = vx) (hown : w.ownsRow base 41 2 v xs.length (blC xs)) (hr : RdB w vx ys) (hb : xs.length + ys.length ≤ 1048576) (hbase : base ≤ w.heap.size)
    (h : ∀ v' w', w'.ownsRow base 41 2 v' (xs.length + ys.length) (blC (xs ++ ys)) → w.grownBy w' v.ownBlock → wpList Try.prog ops Q rest (a.put o.dst v') w') : wpList Try.prog ops Q (o :: rest) a w := by
  refine wpList_plain hgd fun K hK => ?_
  obtain ⟨v', w', hrun, r1, r2⟩ := run_append_blobs w o.type base v xs ys vx hown hr hb hbase
  unfold Oper.wp execOp
  simp only [ho, resolve, invoke, builtin, Sem.run_bind, Sem.run_pure, Result.andThen_ok, List.map_toArray, List.map_cons, List.map_nil, hs, hx, hrun]
  exact hK _ _ (h v' w' r1 r2)
theorem step_append_blobs {w : World} {ops : Array Oper} {o : Oper} {a : Act} {K : Act → World → Prop} {Q : Exit → Act → World → Prop} {E : Prop} (hgd : o.guard = none) (s x : Operand)
    (ho : o.op = .call { callee := .builtin .append, args := #[s, x], argTypes := #[59, 59] })
    (base : Nat) (v : Value) (xs ys : List Bl) (vx : Value) (hs : a.eval s = v) (hx : a.eval x = vx) (hown : w.ownsRow base 41 2 v xs.length (blC xs)) (hr : RdB w vx ys) (hb : xs.length + ys.length ≤ 1048576) (hbase : base ≤ w.heap.size)
    (h : ∀ v' w', w'.ownsRow base 41 2 v' (xs.length + ys.length) (blC (xs ++ ys)) → w.grownBy w' v.ownBlock → K (a.put o.dst v') w') :
    if Region.wanted o (yielded ops a.tmps) = true then Oper.wp Try.prog o a w K Q else E := by
  have hw : Region.wanted o (yielded ops a.tmps) = true := by simp [Region.wanted, hgd]
  rw [if_pos hw]
  obtain ⟨v', w', hrun, r1, r2⟩ := run_append_blobs w o.type base v xs ys vx hown hr hb hbase
  unfold Oper.wp execOp
  simp only [ho, resolve, invoke, builtin, Sem.run_bind, Sem.run_pure, Result.andThen_ok, List.map_toArray, List.map_cons, List.map_nil, hs, hx, hrun]
  exact h v' w' r1 r2
/-- one blob, as append's argument -/
theorem rdB_one (w : World) (x : Bl) (e : TypeId) : RdB (w.alloc (.cells #[.int .i64 x.1, .string x.2] e)) (.slice (some ⟨w.heap.size, 0, none⟩) 1 1) [x] := by
  refine ⟨_, 1, rfl, Nat.le_refl _, fun _ => ⟨_, 0, rfl, by rw [World.size_alloc]; omega, fun j hj => ?_⟩⟩
  obtain rfl : j = 0 := by simpa using hj
  exact ⟨by simp, by simp⟩
/-- the head of a row -/
theorem rdB_take {w : World} {ao : Option Addr} {n cap : Nat} {l : List Bl} (h : RdB w (.slice ao n cap) l) (k : Nat) (hk : k ≤ l.length) : RdB w (.slice ao k cap) (l.take k) := by
  obtain ⟨ao', cap', hv, hcap, hx⟩ := h
  simp only [Value.slice.injEq] at hv
  obtain ⟨rfl, rfl, rfl⟩ := hv
  have hl : (l.take k).length = k := by rw [List.length_take]; omega
  refine ⟨ao, cap, by rw [hl], by omega, fun hne => ?_⟩
  obtain ⟨b, off, ha, hlt, hc⟩ := hx (fun h0 => hne (by rw [h0]; simp))
  refine ⟨b, off, ha, hlt, fun j hj => ?_⟩
  rw [hl] at hj
  have e : (l.take k).getD j bl0 = l.getD j bl0 := by simp [List.getD, hj]
  rw [e]
  exact hc j (by omega)
/-- the tail of a row -/
theorem rdB_drop {w : World} {b off n cap : Nat} {l : List Bl} (h : RdB w (.slice (some ⟨b, off, none⟩) n cap) l) (k c' : Nat) (hk : k ≤ l.length) (hc' : l.length - k ≤ c') : RdB w (.slice (some ⟨b, off + k * 2, none⟩) (n - k) c') (l.drop k) := by
  obtain ⟨ao', cap', hv, hcap, hx⟩ := h
  simp only [Value.slice.injEq] at hv
  obtain ⟨rfl, rfl, rfl⟩ := hv
  have hl : (l.drop k).length = l.length - k := List.length_drop
  refine ⟨_, c', by rw [hl], by omega, fun hne => ?_⟩
  obtain ⟨b', off', ha, hlt, hc⟩ := hx (fun h0 => hne (by rw [h0]; simp))
  simp only [Option.some.injEq, Addr.mk.injEq, and_true] at ha
  obtain ⟨rfl, rfl⟩ := ha
  refine ⟨b, off + k * 2, rfl, hlt, fun j hj => ?_⟩
  rw [hl] at hj
  have e : (l.drop k).getD j bl0 = l.getD (k + j) bl0 := by simp [List.getD]
  rw [e]
  have h := hc (k + j) (by omega)
  rw [show off + (k + j) * 2 = off + k * 2 + j * 2 by omega] at h
  exact h
end Go.Proofs.Ytfoncmeplofedaf

namespace Go.Proofs.Ytfoncmeplofedaf
open Go.RowKit
set_option linter.unusedVariables false
theorem ret_boolS {a b : Bool} (h : a = b) : Ending.returned (.bool a) = .returned (.bool b) := by rw [h]
set_option maxHeartbeats 2000000 in
set_option maxRecDepth 100000 in
theorem specStoreOk_any (va : Value) (l : List Bl) (w : World) (ha : RdB w va l) (hl : l.length ≤ 1048576) (hs : ∀ p ∈ l, p.2.size ≤ 1048576) :
    Calls Try.prog 62 #[va] w fun e w' => e = .returned (.bool (storeB l)) ∧ Below w.heap.size w w' := by
  by_cases h300 : 300 < l.length
  focus
    have e := storeB_len (l := l) (by omega)
    rw [e]
    obtain ⟨ao, cap, rfl⟩ := rdB_shape ha
    have hI : (300 : Int) < (l.length : Int) := by omega
    clear e
    go_enter Try.func62, Try.ntmps62
    go_wp2
    go_ret
    exact ⟨rfl, Below.refl _ _⟩
  have hI : ¬ (300 : Int) < (l.length : Int) := by omega
  rcases rdB_cases ha with ⟨h0, ao, cap, rfl⟩ | ⟨hp, b, off, cap, rfl, _, hlt, hc⟩
  · subst h0
    have e : storeB [] = true := rfl
    rw [e]
    go_enter Try.func62, Try.ntmps62
    go_wp2
    refine wp_loop_rounds 1 ?_
    rw [rounds_succ]
    go_wp2
    go_ret
    exact ⟨rfl, Below.refl _ _⟩
  have HA := Lib.hid hc
  have HNO : Hid (∀ i, i < l.length → ¬ ((l.getD i bl0).2.size ≤ 2000 ∧ (l.getD i bl0).1 = digest (l.getD i bl0).2 ∧ (i = 0 ∨ (l.getD (i - 1) bl0).1 < (l.getD i bl0).1)) → storeB l = false) := fun i hi h => storeB_at hi (by
    cases hk : okAt l i with
    | false => rfl
    | true => exact absurd (okAt_iff.1 hk) h)
  have HYES : Hid ((∀ i, i < l.length → ((l.getD i bl0).2.size ≤ 2000 ∧ (l.getD i bl0).1 = digest (l.getD i bl0).2 ∧ (i = 0 ∨ (l.getD (i - 1) bl0).1 < (l.getD i bl0).1))) → storeB l = true) := fun h => storeB_all (by omega) (fun i hi => okAt_iff.2 (h i hi))
  have HS : Hid (∀ i, i < l.length → (l.getD i bl0).2.size ≤ 1048576) := fun i hi => by
    rw [getD_at hi]
    exact hs _ (List.getElem_mem hi)
  generalize storeB l = r at HNO HYES ⊢
  obtain ⟨n, hn⟩ : ∃ n, n = l.length := ⟨_, rfl⟩
  rw [← hn] at hp hl hI h300 HA HNO HYES HS ⊢
  clear hc ha hn hs
  go_enter Try.func62, Try.ntmps62
  go_wp2
  go_loopw [3] (fun i wr => ∃ k q : Nat, k ≤ n ∧ i = .int .i64 k ∧ wr = w.drewN q ∧ Hid (∀ i, i < k → ((l.getD i bl0).2.size ≤ 2000 ∧ (l.getD i bl0).1 = digest (l.getD i bl0).2 ∧ (i = 0 ∨ (l.getD (i - 1) bl0).1 < (l.getD i bl0).1)))) (fun i _ => n - (intOf i).toNat)
  case atStart => exact ⟨0, 0, Nat.zero_le _, rfl, rfl, fun i h => by omega⟩
  case round =>
    obtain ⟨k, q, hk, rfl, rfl, hok⟩ := hrel
    by_cases hltk : k < n
    focus
      obtain ⟨d0, d1⟩ := HA.out k hltk
      have hsz := HS.out k hltk
      have HNk := Lib.hid (HNO.out k hltk)
      have hnew : Hid (((l.getD k bl0).2.size ≤ 2000 ∧ (l.getD k bl0).1 = digest (l.getD k bl0).2 ∧ (k = 0 ∨ (l.getD (k - 1) bl0).1 < (l.getD k bl0).1)) → ∀ i, i < k + 1 → ((l.getD i bl0).2.size ≤ 2000 ∧ (l.getD i bl0).1 = digest (l.getD i bl0).2 ∧ (i = 0 ∨ (l.getD (i - 1) bl0).1 < (l.getD i bl0).1))) := fun h i hi => by
        rcases Nat.lt_or_ge i k with g | g
        · exact hok.out i g
        · obtain rfl : i = k := by omega
          exact h
      have hprev : 0 < k → w.cell? ⟨b, off + (k - 1) * 2, none⟩ = some (.int .i64 (l.getD (k - 1) bl0).1) := fun h => (HA.out (k - 1) (by omega)).1
      obtain ⟨t, ht⟩ : ∃ t, t = (l.getD k bl0).2 := ⟨_, rfl⟩
      obtain ⟨x, hx⟩ : ∃ x, x = (l.getD k bl0).1 := ⟨_, rfl⟩
      obtain ⟨y, hy⟩ : ∃ y, y = (l.getD (k - 1) bl0).1 := ⟨_, rfl⟩
      rw [← ht] at d1 hsz
      rw [← hx] at d0
      rw [← hy] at hprev
      rw [← ht, ← hx, ← hy] at HNk hnew
      clear ht hx hy hok
      have hltI : (k : Int) < (n : Int) := by omega
      obtain ⟨dg, hdg⟩ : ∃ dg, dg = digest t := ⟨_, rfl⟩
      have HX : Hid (digest t = dg) := hdg.symm
      rw [← hdg] at HNk hnew
      clear hdg
      by_cases h2 : 2000 < t.size
      focus
        have HR := Lib.hid (HNk.out (fun h => by omega))
        clear HNk hnew hprev
        go_wp2
        have g1 : decide ((2000 : Int) < (t.size : Int)) = true := decide_eq_true (by omega)
        go_quiet (first | (go_at_call 24; refine (specDigest_any t _ (by omega)).mono ?_; rintro e w8 ⟨rfl, rfl⟩; rw [HX.out]; exact ⟨rfl, ⟨_, rfl⟩⟩))
        go_wp2
        go_ret
        exact ⟨ret_boolS HR.out.symm, by first | exact below_drewN (Below.refl _ _) _ | exact below_drewN (below_drewN (Below.refl _ _) _) _⟩
      by_cases hxd : x = dg
      rotate_left
      focus
        have HR := Lib.hid (HNk.out (fun h => hxd h.2.1))
        clear HNk hnew hprev
        go_wp2
        have g1 : decide ((2000 : Int) < (t.size : Int)) = false := decide_eq_false (by omega)
        have g2 : (x == dg) = false := beq_eq_false_iff_ne.2 hxd
        have g3 : (x != dg) = true := by simp [hxd]
        go_quiet (first | (go_at_call 24; refine (specDigest_any t _ (by omega)).mono ?_; rintro e w8 ⟨rfl, rfl⟩; rw [HX.out]; exact ⟨rfl, ⟨_, rfl⟩⟩))
        go_wp2
        go_ret
        exact ⟨ret_boolS HR.out.symm, by first | exact below_drewN (Below.refl _ _) _ | exact below_drewN (below_drewN (Below.refl _ _) _) _⟩
      subst hxd
      by_cases hk0 : k = 0
      focus
        have HN := Lib.hid (hnew.out ⟨by omega, rfl, Or.inl hk0⟩)
        clear HNk hnew hprev
        go_wp2
        have g1 : decide ((2000 : Int) < (t.size : Int)) = false := decide_eq_false (by omega)
        have g2 : decide (0 < k) = false := decide_eq_false (by omega)
        clear hk0
        go_quiet (first | (go_at_call 24; refine (specDigest_any t _ (by omega)).mono ?_; rintro e w8 ⟨rfl, rfl⟩; rw [HX.out]; exact ⟨rfl, ⟨_, rfl⟩⟩))
        go_wp2
        go_roundw
        case rel => exact ⟨k + 1, _, by omega, by go_num, rfl, HN⟩
        case measure => simp [intOf]; omega
      have d2 := hprev (by omega)
      obtain ⟨j, hj⟩ : ∃ j : Nat, (k : Int) - 1 = (j : Int) := ⟨k - 1, by omega⟩
      have hjk : k - 1 = j := by omega
      rw [hjk] at d2
      have hjn : j < n := by omega
      by_cases hle : x ≤ y
      focus
        have HR := Lib.hid (HNk.out (fun h => by omega))
        clear HNk hnew hprev hjk
        go_wp2
        have g1 : decide ((2000 : Int) < (t.size : Int)) = false := decide_eq_false (by omega)
        have g2 : decide (0 < k) = true := decide_eq_true (by omega)
        have g3 : decide (x ≤ y) = true := decide_eq_true hle
        go_quiet (first | (go_at_call 24; refine (specDigest_any t _ (by omega)).mono ?_; rintro e w8 ⟨rfl, rfl⟩; rw [HX.out]; exact ⟨rfl, ⟨_, rfl⟩⟩))
        go_wp2
        go_ret
        exact ⟨ret_boolS HR.out.symm, by first | exact below_drewN (Below.refl _ _) _ | exact below_drewN (below_drewN (Below.refl _ _) _) _⟩
      have HN := Lib.hid (hnew.out ⟨by omega, rfl, Or.inr (by omega)⟩)
      clear HNk hnew hprev hjk
      go_wp2
      have g1 : decide ((2000 : Int) < (t.size : Int)) = false := decide_eq_false (by omega)
      have g2 : decide (0 < k) = true := decide_eq_true (by omega)
      have g3 : decide (x ≤ y) = false := decide_eq_false (by omega)
      go_quiet (first | (go_at_call 24; refine (specDigest_any t _ (by omega)).mono ?_; rintro e w8 ⟨rfl, rfl⟩; rw [HX.out]; exact ⟨rfl, ⟨_, rfl⟩⟩))
      go_wp2
      go_roundw
      case rel => exact ⟨k + 1, _, by omega, by go_num, rfl, HN⟩
      case measure => simp [intOf]; omega
    have HR := Lib.hid (HYES.out (fun i hi => hok.out i (by omega)))
    have hltI : ¬ (k : Int) < (n : Int) := by omega
    go_wp2
    go_ret
    exact ⟨ret_boolS HR.out.symm, by first | exact below_drewN (Below.refl _ _) _ | exact below_drewN (below_drewN (Below.refl _ _) _) _⟩
/-- where the first of a digest is -/
def idxB (l : List Bl) (d : Int) : Option Nat := l.findIdx? fun p => p.1 == d
theorem idxB_is {l : List Bl} {d : Int} {k : Nat} (hk : k < l.length) (h : (l.getD k bl0).1 = d) (hn : ∀ j, j < k → (l.getD j bl0).1 ≠ d) : idxB l d = some k ∧ findB l d = some (l.getD k bl0) := by
  unfold idxB findB
  constructor
  · rw [List.findIdx?_eq_some_iff_getElem]
    refine ⟨hk, by rw [← getD_at hk]; exact beq_iff_eq.2 h, fun j hj => ?_⟩
    have := hn j hj
    rw [getD_at (by omega)] at this
    simp [this]
  · rw [List.find?_eq_some_iff_getElem]
    refine ⟨beq_iff_eq.2 h, k, hk, by rw [getD_at hk], fun j hj => ?_⟩
    have := hn j hj
    rw [getD_at (by omega)] at this
    simp [this]
theorem idxB_no {l : List Bl} {d : Int} (hn : ∀ j, j < l.length → (l.getD j bl0).1 ≠ d) : idxB l d = none ∧ findB l d = none := by
  have h : ∀ p ∈ l, p.1 ≠ d := fun p hp => by
    obtain ⟨j, hj, rfl⟩ := List.getElem_of_mem hp
    have := hn j hj
    rwa [getD_at hj] at this
  refine ⟨?_, findB_none.2 h⟩
  unfold idxB
  rw [List.findIdx?_eq_none_iff]
  exact fun p hp => by simp [h p hp]
def findI (l : List Bl) (d : Int) : Int := match idxB l d with
  | some k => (k : Int)
  | none => -1
set_option maxRecDepth 100000 in
theorem l7Find_any (va : Value) (l : List Bl) (d : Int) (w : World) (ha : RdB w va l) (hl : l.length ≤ 1048576) :
    Calls Try.prog 88 #[va, .int .i64 d] w fun e w' => e = .returned (.int .i64 (findI l d)) ∧ w' = w := by
  rcases rdB_cases ha with ⟨h0, ao, cap, rfl⟩ | ⟨hp, b, off, cap, rfl, _, hlt, hc⟩
  · subst h0
    have e : findI [] d = -1 := rfl
    rw [e]
    go_enter Try.func88, Try.ntmps88
    go_wp2
    refine wp_loop_rounds 1 ?_
    rw [rounds_succ]
    go_wp2
    go_ret
    exact ⟨rfl, rfl⟩
  have HA := Lib.hid hc
  have HY : Hid (∀ k, k < l.length → (l.getD k bl0).1 = d → (∀ j, j < k → (l.getD j bl0).1 ≠ d) → findI l d = (k : Int)) := fun k hk h hn => by
    unfold findI
    rw [(idxB_is hk h hn).1]
  have HN : Hid ((∀ j, j < l.length → (l.getD j bl0).1 ≠ d) → findI l d = -1) := fun h => by
    unfold findI
    rw [(idxB_no h).1]
  generalize findI l d = r at HY HN ⊢
  obtain ⟨n, hn⟩ : ∃ n, n = l.length := ⟨_, rfl⟩
  rw [← hn] at hp hl HA HY HN ⊢
  clear hc ha hn
  go_enter Try.func88, Try.ntmps88
  go_wp2
  go_loop [5] (fun i => ∃ k : Nat, k ≤ n ∧ i = .int .i64 k ∧ Hid (∀ j, j < k → (l.getD j bl0).1 ≠ d)) (fun i => n - (intOf i).toNat)
  case atStart => exact ⟨0, Nat.zero_le _, rfl, fun j h => by omega⟩
  case round =>
    obtain ⟨k, hk, rfl, hno⟩ := hrel
    by_cases hltk : k < n
    focus
      obtain ⟨d0, _⟩ := HA.out k hltk
      have HYk := Lib.hid (fun h => HY.out k hltk h hno.out)
      have hnew : Hid ((l.getD k bl0).1 ≠ d → ∀ j, j < k + 1 → (l.getD j bl0).1 ≠ d) := fun h j hj => by
        rcases Nat.lt_or_ge j k with g | g
        · exact hno.out j g
        · obtain rfl : j = k := by omega
          exact h
      obtain ⟨x, hx⟩ : ∃ x, x = (l.getD k bl0).1 := ⟨_, rfl⟩
      rw [← hx] at d0 HYk hnew
      clear hx hno
      by_cases hxd : x = d
      focus
        have HR := Lib.hid (HYk.out hxd)
        subst hxd
        clear HYk hnew
        go_wp2
        go_ret
        exact ⟨ret_int HR.out.symm, rfl⟩
      have HS := Lib.hid (hnew.out hxd)
      have g1 : (x == d) = false := beq_eq_false_iff_ne.2 hxd
      clear HYk hnew
      go_wp2
      go_round
      case rel => exact ⟨k + 1, by omega, by go_num, HS⟩
      case measure => simp [intOf]; omega
    have HR := Lib.hid (HN.out (fun j hj => hno.out j (by omega)))
    go_wp2
    go_ret
    exact ⟨ret_int HR.out.symm, rfl⟩
set_option maxRecDepth 100000 in
theorem l1Has_any (va : Value) (l : List Int) (d : Int) (w : World) (ha : Rd w va (cellsInt64S l)) (hl : l.length ≤ 1048576) :
    Calls Try.prog 63 #[va, .int .i64 d] w fun e w' => e = .returned (.bool (l.contains d)) ∧ w' = w := by
  have hla : (cellsInt64S l).length = l.length := by simp
  rcases rd_cases ha with ⟨h0, ao, cap, rfl⟩ | ⟨hp, b, off, cap, rfl, _, hlt, hc⟩
  · have hx : l = [] := by simpa using h0
    subst hx
    go_enter Try.func63, Try.ntmps63
    go_wp2
    refine wp_loop_rounds 1 ?_
    rw [rounds_succ]
    go_wp2
    go_ret
    exact ⟨rfl, rfl⟩
  rw [hla] at hc hp ⊢
  have HA : Hid (∀ j, j < l.length → w.cell? ⟨b, off + j, none⟩ = some (.int .i64 (l.getD j 0))) := fun j hj => (hc j hj).trans (ints_get _ l j hj)
  have HY : Hid (∀ k, k < l.length → l.getD k 0 = d → l.contains d = true) := fun k hk h => by
    have e : l.getD k 0 = l[k] := by simp [List.getD, hk]
    rw [e] at h
    rw [← h]
    simp
  have HN : Hid ((∀ j, j < l.length → l.getD j 0 ≠ d) → l.contains d = false) := fun h => by
    cases hcn : l.contains d with
    | false => rfl
    | true =>
      have hm : d ∈ l := by simpa using hcn
      obtain ⟨j, hj, e⟩ := List.getElem_of_mem hm
      exact absurd (by simp [List.getD, hj, e]) (h j hj)
  generalize l.contains d = r at HY HN ⊢
  obtain ⟨n, hn⟩ : ∃ n, n = l.length := ⟨_, rfl⟩
  rw [← hn] at hp hl HA HY HN ⊢
  clear hc ha hn hla
  go_enter Try.func63, Try.ntmps63
  go_wp2
  go_loop [5] (fun i => ∃ k : Nat, k ≤ n ∧ i = .int .i64 k ∧ Hid (∀ j, j < k → l.getD j 0 ≠ d)) (fun i => n - (intOf i).toNat)
  case atStart => exact ⟨0, Nat.zero_le _, rfl, fun j h => by omega⟩
  case round =>
    obtain ⟨k, hk, rfl, hno⟩ := hrel
    by_cases hltk : k < n
    focus
      have d0 := HA.out k hltk
      have HYk := Lib.hid (fun h => HY.out k hltk h)
      have hnew : Hid (l.getD k 0 ≠ d → ∀ j, j < k + 1 → l.getD j 0 ≠ d) := fun h j hj => by
        rcases Nat.lt_or_ge j k with g | g
        · exact hno.out j g
        · obtain rfl : j = k := by omega
          exact h
      obtain ⟨x, hx⟩ : ∃ x, x = l.getD k 0 := ⟨_, rfl⟩
      rw [← hx] at d0 HYk hnew
      clear hx hno
      by_cases hxd : x = d
      focus
        have HR := Lib.hid (HYk.out hxd)
        subst hxd
        clear HYk hnew
        go_wp2
        go_ret
        exact ⟨ret_boolS HR.out.symm, rfl⟩
      have HS := Lib.hid (hnew.out hxd)
      have g1 : (x == d) = false := beq_eq_false_iff_ne.2 hxd
      clear HYk hnew
      go_wp2
      go_round
      case rel => exact ⟨k + 1, by omega, by go_num, HS⟩
      case measure => simp [intOf]; omega
    have HR := Lib.hid (HN.out (fun j hj => hno.out j (by omega)))
    go_wp2
    go_ret
    exact ⟨ret_boolS HR.out.symm, rfl⟩
end Go.Proofs.Ytfoncmeplofedaf

namespace Go.Proofs.Ytfoncmeplofedaf
open Go.RowKit
set_option linter.unusedVariables false
theorem l1InB_any (a lo hi : Int) (w : World) : Calls Try.prog 61 #[.int .i64 a, .int .i64 lo, .int .i64 hi] w fun e w' => e = .returned (.bool (decide (lo ≤ a) && decide (a ≤ hi))) ∧ w' = w := by
  by_cases h : lo ≤ a
  · go_enter Try.func61, Try.ntmps61
    go_wp2
    go_ret
    exact ⟨by simp [h], rfl⟩
  · go_enter Try.func61, Try.ntmps61
    go_wp2
    go_ret
    exact ⟨by simp; omega, rfl⟩
set_option maxRecDepth 100000 in
theorem l1HasB_any (va : Value) (l : List Int) (d : Int) (w : World) (ha : Rd w va (cellsInt64S l)) (hl : l.length ≤ 4194304) :
    Calls Try.prog 63 #[va, .int .i64 d] w fun e w' => e = .returned (.bool (l.contains d)) ∧ w' = w := by
  have hla : (cellsInt64S l).length = l.length := by simp
  rcases rd_cases ha with ⟨h0, ao, cap, rfl⟩ | ⟨hp, b, off, cap, rfl, _, hlt, hc⟩
  · have hx : l = [] := by simpa using h0
    subst hx
    go_enter Try.func63, Try.ntmps63
    go_wp2
    refine wp_loop_rounds 1 ?_
    rw [rounds_succ]
    go_wp2
    go_ret
    exact ⟨rfl, rfl⟩
  rw [hla] at hc hp ⊢
  have HA : Hid (∀ j, j < l.length → w.cell? ⟨b, off + j, none⟩ = some (.int .i64 (l.getD j 0))) := fun j hj => (hc j hj).trans (ints_get _ l j hj)
  have HY : Hid (∀ k, k < l.length → l.getD k 0 = d → l.contains d = true) := fun k hk h => by
    have e : l.getD k 0 = l[k] := by simp [List.getD, hk]
    rw [e] at h
    rw [← h]
    simp
  have HN : Hid ((∀ j, j < l.length → l.getD j 0 ≠ d) → l.contains d = false) := fun h => by
    cases hcn : l.contains d with
    | false => rfl
    | true =>
      have hm : d ∈ l := by simpa using hcn
      obtain ⟨j, hj, e⟩ := List.getElem_of_mem hm
      exact absurd (by simp [List.getD, hj, e]) (h j hj)
  generalize l.contains d = r at HY HN ⊢
  obtain ⟨n, hn⟩ : ∃ n, n = l.length := ⟨_, rfl⟩
  rw [← hn] at hp hl HA HY HN ⊢
  clear hc ha hn hla
  go_enter Try.func63, Try.ntmps63
  go_wp2
  go_loop [5] (fun i => ∃ k : Nat, k ≤ n ∧ i = .int .i64 k ∧ Hid (∀ j, j < k → l.getD j 0 ≠ d)) (fun i => n - (intOf i).toNat)
  case atStart => exact ⟨0, Nat.zero_le _, rfl, fun j h => by omega⟩
  case round =>
    obtain ⟨k, hk, rfl, hno⟩ := hrel
    by_cases hltk : k < n
    focus
      have d0 := HA.out k hltk
      have HYk := Lib.hid (fun h => HY.out k hltk h)
      have hnew : Hid (l.getD k 0 ≠ d → ∀ j, j < k + 1 → l.getD j 0 ≠ d) := fun h j hj => by
        rcases Nat.lt_or_ge j k with g | g
        · exact hno.out j g
        · obtain rfl : j = k := by omega
          exact h
      obtain ⟨x, hx⟩ : ∃ x, x = l.getD k 0 := ⟨_, rfl⟩
      rw [← hx] at d0 HYk hnew
      clear hx hno
      by_cases hxd : x = d
      focus
        have HR := Lib.hid (HYk.out hxd)
        subst hxd
        clear HYk hnew
        go_wp2
        go_ret
        exact ⟨by rw [HR.out]; rfl, rfl⟩
      have HS := Lib.hid (hnew.out hxd)
      have g1 : (x == d) = false := beq_eq_false_iff_ne.2 hxd
      clear HYk hnew
      go_wp2
      go_round
      case rel => exact ⟨k + 1, by omega, by go_num, HS⟩
      case measure => simp [intOf]; omega
    have HR := Lib.hid (HN.out (fun j hj => hno.out j (by omega)))
    go_wp2
    go_ret
    exact ⟨by rw [HR.out]; rfl, rfl⟩
end Go.Proofs.Ytfoncmeplofedaf

namespace Go.Proofs.Ytfoncmeplofedaf
open Go.RowKit
set_option linter.unusedVariables false
set_option maxHeartbeats 2000000 in
set_option maxRecDepth 100000 in
theorem l13Blobs_any (r : Int) (va : Value) (l : List It) (w : World) (ha : RdG itf 5 w va l) (hl : l.length ≤ 1048576) :
    Calls Try.prog 31 #[.agg #[.int .i64 r, va]] w fun e w' => ∃ v, e = .returned v ∧ w'.ownsRow w.heap.size 41 2 v l.length (blC (itBs l)) ∧ Below w.heap.size w w' := by
  obtain ⟨W1, hW1⟩ : ∃ W1, W1 = w.alloc (.cells #[.int .i64 r, va] 33) := ⟨_, rfl⟩
  have hb1 : Below w.heap.size w W1 := by rw [hW1]; exact (Below.refl w.heap.size w).alloc (Nat.le_refl _) _
  have hs1 : W1.heap.size = w.heap.size + 1 := by rw [hW1]; exact alloc_sizeI _ _
  have hbox : W1.heap[w.heap.size]? = some (.cells #[.int .i64 r, va] 33 (0, 0)) := by rw [hW1]; exact heap_alloc_new w _
  have HBOX : Hid (∀ wr, Below (w.heap.size + 1) W1 wr → wr.cell? ⟨w.heap.size, 1, none⟩ = some va) := fun wr h => cell_of_row wr w.heap.size 1 _ _ (0, 0) ((h.block _ (by omega)).trans hbox)
  have HLOW : Hid (∀ wr, Below (w.heap.size + 1) W1 wr → Below w.heap.size w wr) := fun wr h => hb1.trans (h.mono (by omega))
  have hB0 := (Below.refl (w.heap.size + 1) W1).alloc (Nat.le_of_eq hs1.symm) (.cells #[] 41)
  have ho0 : (W1.alloc (.cells #[] 41)).ownsRow (w.heap.size + 1) 41 2 (.slice (some ⟨w.heap.size + 1, 0, none⟩) 0 0) 0 (blC []) := by
    rw [← hs1]
    exact World.ownsRow_lit (base := W1.heap.size) (e := 41) (size := 2) W1 #[] 0 (Nat.le_refl _) (Nat.zero_le _) rfl
  have hbox2 : (W1.alloc (.cells #[] 41)).cell? ⟨w.heap.size, 1, none⟩ = some va := HBOX.out _ hB0
  have HOE : Hid (∀ (v : Value) (w9 : World), w9.ownsRow (w.heap.size + 1) 41 2 v (itBs l).length (blC (itBs l)) → w9.ownsRow w.heap.size 41 2 v l.length (blC (itBs l))) := fun v w9 h => by
    rw [show (itBs l).length = l.length from List.length_map _] at h
    exact own_lower h (by omega)
  rcases rdG_cases ha with ⟨h0, ao, cap, rfl⟩ | ⟨hp, b, off, cap, rfl, _, hlt, hc⟩
  · subst h0
    rw [hW1] at hB0 ho0 HLOW hbox2
    clear hbox HBOX hb1
    go_enter Try.func31, Try.ntmps31
    go_wp2
    refine wp_loop_rounds 1 ?_
    rw [rounds_succ]
    go_wp2
    go_ret
    exact ⟨_, rfl, HOE.out _ _ ho0, HLOW.out _ hB0⟩
  have HA := Lib.hid hc
  have HF : Hid (∀ k, k < l.length → itBs (l.take (k + 1)) = itBs (l.take k) ++ [itB (l.getD k it0)]) := fun k hk => by
    unfold itBs
    rw [List.take_succ_eq_append_getElem hk, List.map_append, getD_it hk]; rfl
  have HFL : Hid (∀ k, (itBs (l.take k)).length ≤ k) := fun k => by rw [show (itBs (l.take k)).length = (l.take k).length from List.length_map _]; exact List.length_take_le _ _
  have HFE : Hid (itBs l = itBs (l.take l.length)) := by show _ = _; rw [List.take_length]
  have HF0 : Hid (itBs (l.take 0) = []) := rfl
  have HCE : Hid (∀ k wr, k < l.length → Below (w.heap.size + 1) W1 wr → wr.cell? ⟨b, off + k * 5, none⟩ = some (.int .i64 (itB (l.getD k it0)).1) ∧ wr.cell? ⟨b, off + k * 5 + 1, none⟩ = some (.string (itB (l.getD k it0)).2)) := fun k wr hk h => by
    have := it_cells (cellsG_below hc hlt (HLOW.out wr h)) hk
    exact ⟨this.1, this.2.1⟩
  generalize itBs l = R at HFE HOE ⊢
  obtain ⟨F, hF⟩ : ∃ F : Nat → List Bl, F = fun k => itBs (l.take k) := ⟨_, rfl⟩
  have hF' : ∀ k, itBs (l.take k) = F k := fun k => by rw [hF]
  simp only [hF'] at HF HFL HFE HF0
  obtain ⟨n, hn⟩ : ∃ n, n = l.length := ⟨_, rfl⟩
  rw [← hn] at hp hl HF HFE HCE HOE hW1 hbox2 HBOX ⊢
  have HW := Lib.hid hW1
  have HBX := HBOX
  clear hc hn hF hF' HA ha hbox hb1 HBOX
  have HSZ : Hid (∀ wr, Below (w.heap.size + 1) W1 wr → w.heap.size + 1 ≤ wr.heap.size) := fun wr h => by have := h.size; omega
  rw [hW1] at hB0 ho0 hbox2
  clear hW1
  have HB0 := Lib.hid hB0
  clear hB0
  go_enter Try.func31, Try.ntmps31
  go_wp2
  go_loopw [3, 4] (fun v i wr => ∃ k : Nat, k ≤ n ∧ i = .int .i64 k ∧ wr.ownsRow (w.heap.size + 1) 41 2 v (F k).length (blC (F k)) ∧ Hid (Below (w.heap.size + 1) W1 wr) ∧ wr.cell? ⟨w.heap.size, 1, none⟩ = some (.slice (some ⟨b, off, none⟩) n cap)) (fun _ i _ => n - (intOf i).toNat)
  case atStart => exact ⟨0, Nat.zero_le _, rfl, by rw [HF0.out]; exact ho0, by rw [HW.out]; exact HB0.out, hbox2⟩
  case round =>
    obtain ⟨k, hk, rfl, ho, hb, hx⟩ := hrel
    clear ho0 hbox2
    by_cases hltk : k < n
    focus
      obtain ⟨d0, d1⟩ := HCE.out k _ hltk hb.out
      have HFk : Hid (F (k + 1) = F k ++ [((l.getD k it0).1, (l.getD k it0).2.1)]) := HF.out k hltk
      have hfl := HFL.out k
      have hsz := HSZ.out _ hb.out
      obtain ⟨x1, h1⟩ : ∃ x, x = (l.getD k it0).1 := ⟨_, rfl⟩
      obtain ⟨x2, h2⟩ : ∃ x, x = (l.getD k it0).2.1 := ⟨_, rfl⟩
      rw [← h1] at d0 HFk
      rw [← h2] at d1 HFk
      clear h1 h2
      obtain ⟨acc, hacc⟩ : ∃ acc, acc = F k := ⟨_, rfl⟩
      rw [← hacc] at ho HFk hfl
      clear hacc
      go_wp2_with (at_builtin; refine wpList_append_blobs rfl _ _ rfl (w.heap.size + 1) _ acc [(x1, x2)] _ rfl rfl (ho.alloc _) (rdB_one _ (x1, x2) 41) (by rw [List.length_singleton]; omega) (by rw [World.size_alloc]; omega) ?_)
      intro v3 w3 ho3 hg3
      have hb3 : Hid (Below (w.heap.size + 1) W1 w3) := (hb.out.alloc hsz _).grown hg3 (by simp; omega) (fun k hk => (ho.lt k hk).1)
      have ho4 : w3.ownsRow (w.heap.size + 1) 41 2 v3 (F (k + 1)).length (blC (F (k + 1))) := by
        rw [HFk.out, List.length_append]
        exact ho3
      have hx3 := HBX.out _ hb3.out
      clear ho3 hg3 ho hb d0 d1 hx
      go_wp2
      go_roundw
      case rel => exact ⟨k + 1, by omega, by go_num, ho4, hb3, hx3⟩
      case measure => simp [intOf]; omega
    obtain rfl : k = n := by omega
    rw [← HFE.out] at ho
    have hO := HOE.out _ _ ho
    go_wp2
    go_ret
    exact ⟨_, rfl, hO, HLOW.out _ hb.out⟩
theorem itemP_iff (p : It) : itemP p ↔ ((decide (0 ≤ p.2.2.1) && decide (p.2.2.1 ≤ 100000)) = true ∧ (decide (0 ≤ p.2.2.2.1) && decide (p.2.2.2.1 ≤ p.2.2.1)) = true ∧ (p.2.2.2.2 = true → p.2.2.2.1 = p.2.2.1)) := by
  simp [itemP]
set_option maxHeartbeats 4000000 in
set_option maxRecDepth 100000 in
theorem specShelfOk_any (r : Int) (va : Value) (l : List It) (w : World) (ha : RdG itf 5 w va l) (hl : l.length ≤ 1048576) (hs : ∀ p ∈ l, p.2.1.size ≤ 1048576) :
    Calls Try.prog 34 #[.agg #[.int .i64 r, va]] w fun e w' => e = .returned (.bool (shelfB r l)) ∧ Below w.heap.size w w' := by
  have HNR : Hid ((decide (0 ≤ r) && decide (r ≤ 100000)) = false → shelfB r l = false) := fun h => by
    unfold shelfB
    rw [decide_eq_false (fun h2 => by simp [h2] at h), Bool.false_and]
  have HNS : Hid (storeB (itBs l) = false → shelfB r l = false) := fun h => by
    unfold shelfB
    rw [h, Bool.false_and, Bool.and_false]
  have HNO : Hid (∀ i, i < l.length → ¬ itemP (l.getD i it0) → shelfB r l = false) := fun i hi h => shelfB_at hi h
  have HYES : Hid ((decide (0 ≤ r) && decide (r ≤ 100000)) = true → storeB (itBs l) = true → (∀ i, i < l.length → itemP (l.getD i it0)) → shelfB r l = true) := fun h1 h2 h => shelfB_all (by simpa using h1) h2 h
  obtain ⟨W1, hW1⟩ : ∃ W1, W1 = w.alloc (.cells #[.int .i64 r, va] 33) := ⟨_, rfl⟩
  have hb1 : Below w.heap.size w W1 := by rw [hW1]; exact (Below.refl w.heap.size w).alloc (Nat.le_refl _) _
  have hs1 : W1.heap.size = w.heap.size + 1 := by rw [hW1]; exact alloc_sizeI _ _
  have hbox : W1.heap[w.heap.size]? = some (.cells #[.int .i64 r, va] 33 (0, 0)) := by rw [hW1]; exact heap_alloc_new w _
  have HBOX : Hid (∀ wr, Below (w.heap.size + 1) W1 wr → wr.cell? ⟨w.heap.size, 1, none⟩ = some va) := fun wr h => cell_of_row wr w.heap.size 1 _ _ (0, 0) ((h.block _ (by omega)).trans hbox)
  have HLOW : Hid (∀ wr, Below (w.heap.size + 1) W1 wr → Below w.heap.size w wr) := fun wr h => hb1.trans (h.mono (by omega))
  have HSZ : Hid (∀ wr, Below (w.heap.size + 1) W1 wr → w.heap.size + 1 ≤ wr.heap.size) := fun wr h => by have := h.size; omega
  have HBL : Hid (∀ W, W = W1 → Calls Try.prog 31 #[.agg #[.int .i64 r, va]] W fun e w' => ∃ v, e = .returned v ∧ Hid (w'.ownsRow (w.heap.size + 1) 41 2 v l.length (blC (itBs l))) ∧ Hid (Below (w.heap.size + 1) W1 w')) := by
    intro W hW
    rw [hW]
    have h := l13Blobs_any r va l W1 (rdG_below ha hb1) hl
    rw [hs1] at h
    refine h.mono ?_
    rintro e w' ⟨v, rfl, h1, h2⟩
    exact ⟨v, rfl, h1, h2⟩
  have HST : Hid (∀ (W : World) (v : Value), W.ownsRow (w.heap.size + 1) 41 2 v l.length (blC (itBs l)) → Below (w.heap.size + 1) W1 W → Calls Try.prog 62 #[v] W fun e w' => e = .returned (.bool (storeB (itBs l))) ∧ Hid (Below (w.heap.size + 1) W1 w')) := fun W v h hB => by
    have hlen : (itBs l).length = l.length := List.length_map _
    refine (specStoreOk_any v (itBs l) W (rdB_owns (by rw [hlen]; exact h)) (by rw [hlen]; omega) (fun p hp => ?_)).mono ?_
    · obtain ⟨q, hq, rfl⟩ := List.mem_map.1 hp
      exact hs q hq
    · rintro e w' ⟨rfl, hb⟩
      exact ⟨rfl, hB.trans (hb.mono (by have := hB.size; omega))⟩
  have hin := l1InB_any r 0 100000
  cases hA : (decide (0 ≤ r) && decide (r ≤ 100000)) with
  | false =>
    rw [HNR.out hA]
    rw [hA] at hin
    rw [hW1] at HLOW
    have hfin := HLOW.out _ (Below.refl _ _)
    clear HNR HNS HNO HYES HBOX HLOW HSZ HBL HST hbox hb1 hs1
    obtain ⟨ao, cap, rfl⟩ := rdG_shape ha
    go_enter Try.func34, Try.ntmps34
    go_wp2_with fail
    refine (hin _).mono ?_
    rintro e w8 ⟨rfl, rfl⟩
    go_wp2
    go_ret
    exact ⟨rfl, hfin⟩
  | true =>
    rw [hA] at hin
    have HW := Lib.hid hW1.symm
    clear HNR hbox hb1 hs1
    cases hS : storeB (itBs l) with
    | false =>
      rw [HNS.out hS]
      rw [hS] at HST
      clear HNS HNO HYES HBOX HSZ hA
      obtain ⟨ao, cap, rfl⟩ := rdG_shape ha
      clear ha hs hW1
      go_enter Try.func34, Try.ntmps34
      go_wp2_with fail
      refine (hin _).mono ?_
      rintro e w8 ⟨rfl, rfl⟩
      go_wp2_with fail
      refine (HBL.out _ HW.out).mono ?_
      rintro e w2 ⟨v2, rfl, ho2, hb2⟩
      have HC := Lib.hid (HST.out w2 v2 ho2.out hb2.out)
      clear HST HBL
      go_wp2_with fail
      refine HC.out.mono ?_
      rintro e w3 ⟨rfl, hb3⟩
      clear HC
      go_wp2
      go_ret
      exact ⟨rfl, HLOW.out _ hb3.out⟩
    | true =>
      rw [hS] at HST
      have HYE := Lib.hid (HYES.out hA hS)
      clear HNS HYES hA hS hs
      rcases rdG_cases ha with ⟨h0, ao, cap, rfl⟩ | ⟨hp, b, off, cap, rfl, _, hlt, hc⟩
      · subst h0
        have hy := HYE.out (fun i hi => absurd hi (Nat.not_lt_zero _))
        rw [hy]
        have HBX := HBOX
        clear ha hW1 HYE HNO HBOX
        go_enter Try.func34, Try.ntmps34
        go_wp2_with fail
        refine (hin _).mono ?_
        rintro e w8 ⟨rfl, rfl⟩
        go_wp2_with fail
        refine (HBL.out _ HW.out).mono ?_
        rintro e w2 ⟨v2, rfl, ho2, hb2⟩
        have HC := Lib.hid (HST.out w2 v2 ho2.out hb2.out)
        clear HST HBL
        go_wp2_with fail
        refine HC.out.mono ?_
        rintro e w3 ⟨rfl, hb3⟩
        have hx := HBX.out _ hb3.out
        clear HC
        go_wp2
        refine wp_loop_rounds 1 ?_
        rw [rounds_succ]
        go_wp2
        go_ret
        exact ⟨rfl, HLOW.out _ hb3.out⟩
      have HCE : Hid (∀ k wr, k < l.length → Below (w.heap.size + 1) W1 wr → wr.cell? ⟨b, off + k * 5, none⟩ = some (.int .i64 (l.getD k it0).1) ∧ wr.cell? ⟨b, off + k * 5 + 1, none⟩ = some (.string (l.getD k it0).2.1) ∧ wr.cell? ⟨b, off + k * 5 + 2, none⟩ = some (.int .i64 (l.getD k it0).2.2.1) ∧ wr.cell? ⟨b, off + k * 5 + 3, none⟩ = some (.int .i64 (l.getD k it0).2.2.2.1) ∧ wr.cell? ⟨b, off + k * 5 + 4, none⟩ = some (.bool (l.getD k it0).2.2.2.2)) := fun k wr hk h => it_cells (cellsG_below hc hlt (HLOW.out wr h)) hk
      generalize shelfB r l = res at HNO HYE ⊢
      obtain ⟨n, hn⟩ : ∃ n, n = l.length := ⟨_, rfl⟩
      rw [← hn] at hp hl HNO HYE HCE HBL HST HBOX HW ⊢
      have HBX := HBOX
      clear hc hn ha HBOX hW1 hlt
      go_enter Try.func34, Try.ntmps34
      go_wp2_with fail
      refine (hin _).mono ?_
      rintro e w8 ⟨rfl, rfl⟩
      go_wp2_with fail
      refine (HBL.out _ HW.out).mono ?_
      rintro e w2 ⟨v2, rfl, ho2, hb2⟩
      have HC := Lib.hid (HST.out w2 v2 ho2.out hb2.out)
      clear HST HBL
      go_wp2_with fail
      refine HC.out.mono ?_
      rintro e w3 ⟨rfl, hb3⟩
      have hx3 := HBX.out _ hb3.out
      clear HC ho2 hb2 hin
      go_wp2
      go_loopw [3] (fun i wr => ∃ k : Nat, k ≤ n ∧ i = .int .i64 k ∧ Hid (∀ j, j < k → itemP (l.getD j it0)) ∧ Hid (Below (w.heap.size + 1) W1 wr) ∧ wr.cell? ⟨w.heap.size, 1, none⟩ = some (.slice (some ⟨b, off, none⟩) n cap)) (fun i _ => n - (intOf i).toNat)
      case atStart => exact ⟨0, Nat.zero_le _, rfl, fun j h => absurd h (Nat.not_lt_zero _), hb3, hx3⟩
      case round =>
        obtain ⟨k, hk, rfl, hok, hb, hx⟩ := hrel
        clear hb3 hx3
        by_cases hltk : k < n
        focus
          obtain ⟨d0, d1, d2, d3, d4⟩ := HCE.out k _ hltk hb.out
          have HNk := Lib.hid (HNO.out k hltk)
          have HNW : Hid (itemP (l.getD k it0) → ∀ j, j < k + 1 → itemP (l.getD j it0)) := fun e j hj => by
            rcases Nat.lt_or_ge j k with g | g
            · exact hok.out j g
            · obtain rfl : j = k := by omega
              exact e
          obtain ⟨x, hxx⟩ : ∃ x, x = l.getD k it0 := ⟨_, rfl⟩
          rw [← hxx] at d0 d1 d2 d3 d4 HNk HNW
          obtain ⟨x1, x2, x3, x4, x5⟩ := x
          simp only at d0 d1 d2 d3 d4
          clear hxx hok
          have hq1 := l1InB_any x3 0 100000
          have hq2 := l1InB_any x4 0 x3
          have HIF : Hid (itemP (x1, x2, x3, x4, x5) ↔ ((decide (0 ≤ x3) && decide (x3 ≤ 100000)) = true ∧ (decide (0 ≤ x4) && decide (x4 ≤ x3)) = true ∧ (x5 = true → x4 = x3))) := itemP_iff _
          have HSZk := HSZ.out _ hb.out
          have HBn : Hid (Below (w.heap.size + 1) W1 (World.alloc wr (.cells #[.int .i64 x1, .string x2, .int .i64 x3, .int .i64 x4, .bool x5] 43))) := hb.out.alloc HSZk _
          have HFn : Hid (Below w.heap.size w (World.alloc wr (.cells #[.int .i64 x1, .string x2, .int .i64 x3, .int .i64 x4, .bool x5] 43))) := HLOW.out _ HBn.out
          have HXn := Lib.hid (HBX.out _ HBn.out)
          clear hb HSZk
          cases hq : (decide (0 ≤ x3) && decide (x3 ≤ 100000)) with
          | false =>
            have HR := Lib.hid (HNk.out (fun h => by have := (HIF.out.1 h).1; rw [hq] at this; cases this))
            rw [hq] at hq1
            clear HNk HNW HIF hq hq2
            go_wp2_with fail
            refine (hq1 _).mono ?_
            rintro e w9 ⟨rfl, rfl⟩
            go_wp2
            go_ret
            exact ⟨ret_boolS HR.out.symm, HFn.out⟩
          | true =>
          rw [hq] at hq1
          cases hr : (decide (0 ≤ x4) && decide (x4 ≤ x3)) with
          | false =>
            have HR := Lib.hid (HNk.out (fun h => by have := (HIF.out.1 h).2.1; rw [hr] at this; cases this))
            rw [hr] at hq2
            clear HNk HNW HIF hq hr
            go_wp2_with fail
            refine (hq1 _).mono ?_
            rintro e w9 ⟨rfl, rfl⟩
            go_wp2_with fail
            refine (hq2 _).mono ?_
            rintro e w9 ⟨rfl, rfl⟩
            go_wp2
            go_ret
            exact ⟨ret_boolS HR.out.symm, HFn.out⟩
          | true =>
          rw [hr] at hq2
          cases x5 with
          | false =>
            have HOK := Lib.hid (HNW.out (HIF.out.2 ⟨hq, hr, fun h => by cases h⟩))
            clear HNk HNW HIF hq hr
            go_wp2_with fail
            refine (hq1 _).mono ?_
            rintro e w9 ⟨rfl, rfl⟩
            go_wp2_with fail
            refine (hq2 _).mono ?_
            rintro e w9 ⟨rfl, rfl⟩
            go_wp2
            go_roundw
            case rel => exact ⟨k + 1, by omega, by go_num, HOK, HBn, HXn.out⟩
            case measure => simp [intOf]; omega
          | true =>
          by_cases he : x4 = x3
          focus
            subst he
            have HOK := Lib.hid (HNW.out (HIF.out.2 ⟨hq, hr, fun _ => rfl⟩))
            clear HNk HNW HIF hq hr
            go_wp2_with fail
            refine (hq1 _).mono ?_
            rintro e w9 ⟨rfl, rfl⟩
            go_wp2_with fail
            refine (hq2 _).mono ?_
            rintro e w9 ⟨rfl, rfl⟩
            go_wp2
            go_roundw
            case rel => exact ⟨k + 1, by omega, by go_num, HOK, HBn, HXn.out⟩
            case measure => simp [intOf]; omega
          have HR := Lib.hid (HNk.out (fun h => he ((HIF.out.1 h).2.2 rfl)))
          clear HNk HNW HIF hq hr
          go_wp2_with fail
          refine (hq1 _).mono ?_
          rintro e w9 ⟨rfl, rfl⟩
          go_wp2_with fail
          refine (hq2 _).mono ?_
          rintro e w9 ⟨rfl, rfl⟩
          go_wp2
          go_ret
          exact ⟨ret_boolS HR.out.symm, HFn.out⟩
        obtain rfl : k = n := by omega
        have HR := Lib.hid (HYE.out hok.out)
        go_wp2
        go_ret
        exact ⟨ret_boolS HR.out.symm, HLOW.out _ hb.out⟩
end Go.Proofs.Ytfoncmeplofedaf

namespace Go.Proofs.Ytfoncmeplofedaf
open Go.RowKit

/-- what markInt64S lays from m on -/
def marksInt64S (m n : Nat) : List Int := (List.range n).map fun (j : Nat) => ((m : Int) + (j : Int))
theorem marksInt64S_len (m n : Nat) : (marksInt64S m n).length = n := by simp [marksInt64S]
theorem marksInt64S_succ (m k : Nat) : marksInt64S m (k + 1) = marksInt64S m k ++ [((m : Int) + (k : Int))] := by simp [marksInt64S, List.range_succ]
theorem marksInt64S_get (m n j : Nat) (h : j < n) : (marksInt64S m n).getD j 0 = ((m : Int) + (j : Int)) := by simp [marksInt64S, List.getD, h]
theorem marksInt64S_step (m k : Nat) (xs : List Int) (h : k < xs.length) : ((cellsInt64S (marksInt64S m k ++ xs.drop k)).set k (.int .i64 (((m : Int) + (k : Int))))) = cellsInt64S (marksInt64S m (k + 1) ++ xs.drop (k + 1)) := by
  have hd : xs.drop k = xs[k] :: xs.drop (k + 1) := List.drop_eq_getElem_cons h
  rw [marksInt64S_succ, hd]
  have e : (cellsInt64S (marksInt64S m k)).length = k := by simp [marksInt64S_len]
  have e2 : cellsInt64S (marksInt64S m k ++ xs[k] :: xs.drop (k + 1)) = cellsInt64S (marksInt64S m k) ++ (Value.int .i64 xs[k] :: cellsInt64S (xs.drop (k + 1))) := by rw [cellsInt64S, List.map_append, List.map_cons]
  rw [e2, List.set_append_right _ _ (by omega), e, Nat.sub_self, List.set_cons_zero]
  simp

end Go.Proofs.Ytfoncmeplofedaf

namespace Go.Proofs.Ytfoncmeplofedaf
open Go.RowKit
set_option linter.unusedVariables false
theorem find_cases (l : List Bl) (d : Int) : (∃ k, k < l.length ∧ findI l d = (k : Int) ∧ findB l d = some (l.getD k bl0) ∧ (l.getD k bl0).1 = d) ∨ (findI l d = -1 ∧ findB l d = none ∧ ∀ p ∈ l, p.1 ≠ d) := by
  cases h : idxB l d with
  | none =>
    right
    have hn : ∀ p ∈ l, p.1 ≠ d := by
      unfold idxB at h
      rw [List.findIdx?_eq_none_iff] at h
      exact fun p hp e => by
        have := h p hp
        simp [e] at this
    exact ⟨by unfold findI; rw [h], findB_none.2 hn, hn⟩
  | some k =>
    left
    have h2 := h
    unfold idxB at h2
    rw [List.findIdx?_eq_some_iff_getElem] at h2
    obtain ⟨hk, h3, h4⟩ := h2
    have e : (l.getD k bl0).1 = d := by rw [getD_at hk]; exact beq_iff_eq.1 h3
    refine ⟨k, hk, by unfold findI; rw [h], (idxB_is hk e fun j hj => ?_).2, e⟩
    rw [getD_at (by omega)]
    have := h4 j hj
    simpa using this
theorem rd_shape {w : World} {v : Value} {xs : List Value} (h : Rd w v xs) : ∃ ao cap, v = .slice ao xs.length cap := by
  obtain ⟨ao, cap, hv, _⟩ := h
  exact ⟨ao, cap, hv⟩
def getV (r : Option ByteArray) : Value := match r with
  | some t => .tuple #[.string t, .bool true]
  | none => .tuple #[.string ⟨#[]⟩, .bool false]
theorem filter_snoc {α} (p : α → Bool) (l : List α) (z : α) (k : Nat) (hk : k < l.length) : (l.take (k + 1)).filter p = (l.take k).filter p ++ (if p (l.getD k z) then [l.getD k z] else []) := by
  have e : l.getD k z = l[k] := by simp [List.getD, hk]
  rw [List.take_succ_eq_append_getElem hk, List.filter_append, e]
  congr 1
  cases h : p l[k] <;> simp [h]
/-- 'list[:k]' -/
theorem slB_to {w : World} {v : Value} {l : List Bl} (h : RdB w v l) (k : Nat) (hk : k ≤ l.length) : ∃ u, (∀ w', Below w.heap.size w w' → RdB w' u (l.take k)) ∧ ∀ W : World, (Instr.slice 59 v none (some (.int .i64 (k : Int))) none).run Try.prog W = .ok u W := by
  obtain ⟨ao, cap, rfl, hcap, hx⟩ := h
  obtain ⟨i0, hi, hz0, hz1, hz2⟩ := info_parts Try.infoBl
  have hel : Try.prog.elem 59 = 41 := by kernel_rfl
  have hsz : ∀ W : World, (sizeOf 41).run Try.prog W = .ok 2 W := fun W => by simp [sizeOf, typeInfo, hi, hz1]
  refine ⟨.slice ao k cap, fun w' hb => rdB_take (rdB_below ⟨ao, cap, rfl, hcap, hx⟩ hb) k hk, fun W => ?_⟩
  rw [run_slice_h W 59 _ _ cap (by rw [hel]; exact Try.underlying59) .i64 _ (by omega) (by omega), hel, hsz]
  by_cases hc0 : cap = 0
  · simp [Result.andThen, sliced, hc0]
  · cases ao with
    | none => simp [Result.andThen, sliced]
    | some a => simp [Result.andThen, sliced, hc0, Addr.add]
/-- 'list[k:]' -/
theorem slB_from {w : World} {v : Value} {l : List Bl} (h : RdB w v l) (k : Nat) (hk : k ≤ l.length) : ∃ u, (∀ w', Below w.heap.size w w' → RdB w' u (l.drop k)) ∧ ∀ W : World, (Instr.slice 59 v (some (.int .i64 (k : Int))) none none).run Try.prog W = .ok u W := by
  obtain ⟨ao, cap, rfl, hcap, hx⟩ := h
  obtain ⟨i0, hi, hz0, hz1, hz2⟩ := info_parts Try.infoBl
  have hel : Try.prog.elem 59 = 41 := by kernel_rfl
  have hsz : ∀ W : World, (sizeOf 41).run Try.prog W = .ok 2 W := fun W => by simp [sizeOf, typeInfo, hi, hz1]
  have hld : (l.drop k).length = l.length - k := List.length_drop
  refine ⟨sliced ao k l.length cap 2, fun w' hb => ?_, fun W => ?_⟩
  · unfold sliced
    refine ⟨_, cap - k, by rw [hld], by omega, fun hne => ?_⟩
    have hlt : k < l.length := by
      rcases Nat.lt_or_ge k l.length with g | g
      · exact g
      · exact absurd (List.drop_of_length_le g) hne
    obtain ⟨b, off, rfl, hbl, hc⟩ := hx (fun h0 => by subst h0; exact absurd hlt (Nat.not_lt_zero _))
    have hr : RdB w' (.slice (some ⟨b, off + k * 2, none⟩) (l.length - k) (cap - k)) (l.drop k) := rdB_drop (rdB_below ⟨_, cap, rfl, hcap, fun _ => ⟨b, off, rfl, hbl, hc⟩⟩ hb) k (cap - k) hk (by omega)
    obtain ⟨ao2, cap2, hv, _, hx2⟩ := hr
    simp only [Value.slice.injEq] at hv
    obtain ⟨rfl, _, _⟩ := hv
    have e : (if cap = k then some (⟨b, off, none⟩ : Addr) else (some (⟨b, off, none⟩ : Addr)).map (·.add (k * 2))) = some ⟨b, off + k * 2, none⟩ := by
      rw [if_neg (by omega)]
      exact congrArg some (Addr.add_lit ..)
    rw [e]
    exact hx2 hne
  · rw [run_slice_l W 59 _ _ cap (by rw [hel]; exact Try.underlying59) .i64 _ (by omega) (by omega), hel, hsz]
    simp [Result.andThen]
theorem ins_at {l : List Bl} {x : Bl} {k : Nat} (hr : l.Pairwise (fun p q => p.1 < q.1)) (hn : ∀ p ∈ l, p.1 ≠ x.1) (hk : k ≤ l.length) (h1 : ∀ j, j < k → (l.getD j bl0).1 < x.1) (h2 : k < l.length → ¬ (l.getD k bl0).1 < x.1) : insB l x = l.take k ++ [x] ++ l.drop k := by
  have e : l = l.take k ++ l.drop k := (List.take_append_drop k l).symm
  have ht : ∀ p ∈ l.take k, p.1 < x.1 := fun p hp => by
    obtain ⟨j, hj, rfl⟩ := List.getElem_of_mem hp
    rw [List.length_take] at hj
    have := h1 j (by omega)
    rw [getD_at (by omega)] at this
    rw [List.getElem_take]
    exact this
  have hd : ∀ p ∈ l.drop k, x.1 < p.1 := fun p hp => by
    obtain ⟨j, hj, rfl⟩ := List.getElem_of_mem hp
    rw [List.length_drop] at hj
    have h3 := h2 (by omega)
    rw [getD_at (by omega)] at h3
    rw [List.getElem_drop]
    have h4 := hn l[k + j] (List.getElem_mem _)
    rcases Nat.eq_zero_or_pos j with h0 | h0
    · subst h0
      simp only [Nat.add_zero] at h4 ⊢
      omega
    · have h5 := List.pairwise_iff_getElem.1 hr k (k + j) (by omega) (by omega) (by omega)
      omega
  unfold insB
  have a1 : l.filter (fun q => decide (q.1 < x.1)) = l.take k := by
    conv => lhs; rw [e]
    rw [List.filter_append, List.filter_eq_self.2 (fun p hp => decide_eq_true (ht p hp)), List.filter_eq_nil_iff.2 (fun p hp => by have := hd p hp; simp; omega), List.append_nil]
  have a2 : l.filter (fun q => decide (x.1 < q.1)) = l.drop k := by
    conv => lhs; rw [e]
    rw [List.filter_append, List.filter_eq_self.2 (fun p hp => decide_eq_true (hd p hp)), List.filter_eq_nil_iff.2 (fun p hp => by have := ht p hp; simp; omega), List.nil_append]
  rw [a1, a2, List.append_assoc]
  rfl
end Go.Proofs.Ytfoncmeplofedaf

namespace Go.Proofs.Ytfoncmeplofedaf
open Go.RowKit
set_option linter.unusedVariables false
end Go.Proofs.Ytfoncmeplofedaf

namespace Go.Proofs.Ytfoncmeplofedaf
open Go.RowKit
set_option linter.unusedVariables false
theorem itY : TyZ Try.prog 31 43 itf 5 48 itZ (.agg #[.int .i64 0, .string ⟨#[]⟩, .int .i64 0, .int .i64 0, .bool false]) := ⟨Try.underlying31, Try.infoIt, by decide, rfl⟩
set_option maxHeartbeats 2000000 in
set_option maxRecDepth 100000 in
theorem l13Copy_any (r : Int) (va : Value) (l : List It) (w : World) (ha : RdG itf 5 w va l) (hl : l.length ≤ 1048576) :
    Calls Try.prog 35 #[.agg #[.int .i64 r, va]] w fun e w' => ∃ v, e = .returned (.agg #[.int .i64 r, v]) ∧ OwnI w' w.heap.size v l ∧ Below w.heap.size w w' := by
  have hdt := itY.ty itW
  obtain ⟨W2, hW2⟩ : ∃ W2, W2 = (w.alloc (.cells #[.int .i64 r, va] 33)).alloc (.cells #[.int .i64 0, .slice none 0 0] 33) := ⟨_, rfl⟩
  have hb2 : Below w.heap.size w W2 := by
    rw [hW2]; exact ((Below.refl w.heap.size w).alloc (Nat.le_refl _) _).alloc (by rw [alloc_sizeI]; omega) _
  have hs2 : W2.heap.size = w.heap.size + 1 + 1 := by rw [hW2, alloc_sizeI, alloc_sizeI]
  have hA : W2.heap[w.heap.size]? = some (.cells #[.int .i64 r, va] 33 (0, 0)) := by
    rw [hW2, Below.heap_alloc _ _ _ (by rw [alloc_sizeI]; omega)]; exact heap_alloc_new w _
  have hZ : W2.heap[w.heap.size + 1]? = some (.cells #[.int .i64 0, .slice none 0 0] 33 (0, 0)) := by
    rw [hW2]
    have e := heap_alloc_new (w.alloc (.cells #[.int .i64 r, va] 33)) (.cells #[.int .i64 0, .slice none 0 0] 33)
    rw [alloc_sizeI] at e
    exact e
  have HCE : Hid (∀ wr, Below (w.heap.size + 1 + 1) W2 wr → wr.cell? ⟨w.heap.size, 0, none⟩ = some (.int .i64 r) ∧ wr.cell? ⟨w.heap.size, 1, none⟩ = some va ∧ wr.cell? ⟨w.heap.size + 1, 0, none⟩ = some (.int .i64 0) ∧ wr.cell? ⟨w.heap.size + 1, 1, none⟩ = some (.slice none 0 0) ∧ wr.frozen? ⟨w.heap.size + 1, 0, none⟩ = false ∧ wr.frozen? ⟨w.heap.size + 1, 1, none⟩ = false) := fun wr h => by
    have h1 := (h.block w.heap.size (by omega)).trans hA
    have h2 := (h.block (w.heap.size + 1) (by omega)).trans hZ
    exact ⟨cell_of_row wr _ 0 _ _ (0, 0) h1, cell_of_row wr _ 1 _ _ (0, 0) h1, cell_of_row wr _ 0 _ _ (0, 0) h2, cell_of_row wr _ 1 _ _ (0, 0) h2, Lib.frozen_of_heap h2 0, Lib.frozen_of_heap h2 1⟩
  have hB3 := (Below.refl (w.heap.size + 1 + 1) W2).alloc (Nat.le_of_eq hs2.symm) (.cells #[] 43)
  have hlit : OwnI (W2.alloc (.cells #[] 43)) (w.heap.size + 1 + 1) (.slice (some ⟨w.heap.size + 1 + 1, 0, none⟩) 0 0) [] := by
    rw [← hs2]
    exact World.ownsRow_lit (base := W2.heap.size) (e := 43) (size := 5) W2 #[] 0 (Nat.le_refl _) (Nat.zero_le _) rfl
  have hrd : RdG itf 5 (W2.alloc (.cells #[] 43)) va l := rdG_below ha (hb2.trans (hB3.mono (by omega)))
  have hsz : w.heap.size + 1 + 1 ≤ (W2.alloc (.cells #[] 43)).heap.size := by rw [alloc_sizeI]; omega
  obtain ⟨ao, cap, hva⟩ := rdG_shape ha
  have HFIN : Hid (∀ (w8 : World) (v : Value) k0 k1 W3, W3 = (w8.setCell ⟨w.heap.size + 1, 0, none⟩ k0).setCell ⟨w.heap.size + 1, 1, none⟩ k1 → OwnI w8 (w.heap.size + 1 + 1) v l → Below (w.heap.size + 1 + 1) W2 w8 → OwnI W3 w.heap.size v l ∧ Below w.heap.size w W3 ∧ W3.heap[w.heap.size + 1]? = some (.cells #[k0, k1] 33 (0, 0))) := fun w8 v k0 k1 W3 hW3 ho hb => by
    subst hW3
    have h2 := (hb.block (w.heap.size + 1) (by omega)).trans hZ
    exact ⟨own_lower (own_setCell (own_setCell ho (p := ⟨w.heap.size + 1, 0, none⟩) (by show w.heap.size + 1 < _; omega) k0) (p := ⟨w.heap.size + 1, 1, none⟩) (by show w.heap.size + 1 < _; omega) k1) (by omega), ((hb2.trans (hb.mono (by omega))).setCell (p := ⟨w.heap.size + 1, 0, none⟩) (by show w.heap.size ≤ w.heap.size + 1; omega) k0).setCell (p := ⟨w.heap.size + 1, 1, none⟩) (by show w.heap.size ≤ w.heap.size + 1; omega) k1, by simp [World.setCell, Array.getElem?_modify, h2]⟩
  have hsi : Hid ((Try.prog.info? 33).map (·.size) = some 2) := by
    show _ = _
    kernel_rfl
  have HB8 : Hid (∀ w8, (W2.alloc (.cells #[] 43)).drew.grownBy w8 (some (w.heap.size + 1 + 1)) → Below (w.heap.size + 1 + 1) W2 w8) := fun w8 hg => hB3.drew.grown hg hsz (fun j e => Nat.le_of_eq (Option.some.inj e))
  subst hva
  have HW := Lib.hid hW2
  rw [hW2] at hlit hrd hsz
  have HB8' : Hid (∀ w8, (((w.alloc (.cells #[.int .i64 r, .slice ao l.length cap] 33)).alloc (.cells #[.int .i64 0, .slice none 0 0] 33)).alloc (.cells #[] 43)).drew.grownBy w8 (some (w.heap.size + 1 + 1)) → Below (w.heap.size + 1 + 1) W2 w8) := fun w8 h => HB8.out w8 (by rw [hW2]; exact h)
  clear HB8 hB3
  obtain ⟨x0, x1, x2, x3, x4, x5⟩ := HCE.out _ (Below.refl _ _)
  rw [hW2] at x0 x1 x2 x3 x4 x5
  clear hA hZ hb2 hs2 ha hW2
  go_enter Try.func35, Try.ntmps35
  go_wp2
  go_region_law (first
    | (refine step_ownG hdt itW rfl (.tmp 5) (.tmp 7) rfl (w.heap.size + 1 + 1) _ (.slice ao l.length cap) [] l (by simp [Act.eval]) (by simp [Act.eval]) hlit hrd (by simp; omega) hsz ?_; intro v8 w8 ho8 hg8 hi8; have hB8 := HB8'.out _ hg8; obtain ⟨y0, y1, y2, y3, y4, y5⟩ := HCE.out _ hB8; obtain ⟨bo, bcap, rfl⟩ := ownG_shape ho8))
  all_goals
    have HF := Lib.hid (fun k0 k1 W3 h => HFIN.out _ _ k0 k1 W3 h ho8 hB8)
    clear HFIN HB8' HCE ho8 hg8 hi8 hB8
    go_wp2
    refine bodyPost_ret (results_cell_row (by rfl) _ _ (w.heap.size + 1) 33 #[.int .i64 r, .slice bo ([] ++ l).length bcap] (0, 0) _ rfl (HF.out _ _ _ rfl).2.2 Try.underlying33 rfl hsi.out) rfl ?_
    exact ⟨_, rfl, (HF.out _ _ _ rfl).1, (HF.out _ _ _ rfl).2.1⟩
end Go.Proofs.Ytfoncmeplofedaf
