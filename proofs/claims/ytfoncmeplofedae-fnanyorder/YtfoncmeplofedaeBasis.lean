/- THE PROGRAM's TYPES, and what the conversions between texts and bytes do. It speaks of no function of the program. -/
import Derived.Test.YtfoncmeplofedaeRows
import Derived.Test.YtfoncmeplofedaeRows1
import Derived.WalkKit
import Derived.WalkLawsBesides
import Derived.BigRegion
import Derived.Laws.IdiomStrings
import Derived.Laws.ResultCell
import Derived.OneCell
import Derived.Outline
import Derived.Deep.QuietTactic
import Derived.BigQuiet
namespace Go.Proofs.Ytfoncmeplofedae
open Go.RowKit

theorem Try.infoB : (Try.prog.info? 5).map (fun i => (i.zero, i.size, i.bytes)) = some (some (.int .u8 0), 1, 1) := by kernel_rfl
theorem Try.info64 : (Try.prog.info? 2).map (fun i => (i.zero, i.size, i.bytes)) = some (some (.int .i64 0), 1, 8) := by kernel_rfl
theorem Try.infoS : (Try.prog.info? 9).map (fun i => (i.zero, i.size, i.bytes)) = some (some (.string ⟨#[]⟩), 1, 16) := by kernel_rfl
theorem one_cell (w : World) (k : IntKind) (z : Int) (t : TypeId) : ∀ j u, ([Value.int k z] : List Value)[j]? = some u → (w.alloc (.cells #[Value.int k z] t)).cell? ((⟨w.heap.size, 0, none⟩ : Addr).add j) = some u := by
  intro j u hj
  match j, hj with
  | 0, hj => simp at hj; subst hj; simp [Addr.add]

theorem drop_getD (L : List Int) (j : Nat) (h : j < L.length) : L.drop j = L.getD j 0 :: L.drop (j + 1) := by
  rw [List.drop_eq_getElem_cons h]; simp [List.getD, h]

/-- a string's bytes as numbers -/
def byts (s : ByteArray) : List Int := s.data.toList.map fun b => (b.toNat : Int)
theorem byts_len (s : ByteArray) : (byts s).length = s.size := by simp [byts]

theorem byts_get (s : ByteArray) (j : Nat) (h : j < s.data.size) : (byts s).getD j 0 = (s.data[j].toNat : Int) := by
  have h' : j < s.data.toList.length := h
  rw [List.getD, byts, List.getElem?_map, List.getElem?_eq_getElem h']
  rfl

theorem conv_cells (w : World) (t : ByteArray) (cap : Nat) (E : TypeId) (fr : Nat × Nat) : ∀ j, j < t.size → ((w.alloc (.cells (bytesRow t cap) E fr)).drew.drew).cell? ⟨w.heap.size, j, none⟩ = some (.int .u8 ((byts t).getD j 0)) := by
  intro j hj
  rw [byts_get t j hj]
  exact (World.cell?_alloc_mark w _ E fr j).trans (bytesRow_at t cap j hj)

theorem byts_range (t : ByteArray) (j : Nat) : 0 ≤ (byts t).getD j 0 ∧ (byts t).getD j 0 ≤ 255 := by
  by_cases h : j < t.data.size
  · rw [byts_get t j h]
    have := t.data[j].toNat_lt
    omega
  · have e : (byts t).getD j 0 = 0 := by
      rw [List.getD, List.getElem?_eq_none (by rw [byts_len]; exact Nat.le_of_not_lt h)]; rfl
    omega

def Bytes (zs : List Int) : Prop := ∀ x ∈ zs, 0 ≤ x ∧ x ≤ 255
theorem bytes_get {zs : List Int} (h : Bytes zs) (j : Nat) : 0 ≤ zs.getD j 0 ∧ zs.getD j 0 ≤ 255 := by
  by_cases hj : j < zs.length
  · have e : zs.getD j 0 = zs[j] := by simp [List.getD, hj]
    rw [e]; exact h _ (List.getElem_mem hj)
  · have e : zs.getD j 0 = 0 := by rw [List.getD, List.getElem?_eq_none (Nat.le_of_not_lt hj)]; rfl
    omega

theorem take_getD (zs : List Int) (n j : Nat) (h : j < n) : (zs.take n).getD j 0 = zs.getD j 0 := by
  simp [List.getD, h]

/-- numbers as a string's bytes -/
def asB (zs : List Int) : ByteArray := ⟨(zs.map fun z => UInt8.ofNat z.toNat).toArray⟩
theorem asB_size (zs : List Int) : (asB zs).size = zs.length := by simp [asB, ByteArray.size]
theorem asB_byts (zs : List Int) (h : Bytes zs) : byts (asB zs) = zs := by
  unfold byts asB
  simp only [List.map_map]
  conv => rhs; rw [← List.map_id zs]
  apply List.map_congr_left
  intro x hx
  have := h x hx
  simp only [Function.comp, id]
  show ((UInt8.ofNat x.toNat).toNat : Int) = x
  rw [UInt8.toNat_ofNat_of_lt' (show x.toNat < UInt8.size by have : UInt8.size = 256 := rfl; omega)]
  omega
theorem bytes_take {zs : List Int} (h : Bytes zs) (n : Nat) : Bytes (zs.take n) := fun x hx => h x (List.mem_of_mem_take hx)

/-- 'string(b[:k])' where b's cells are the bytes zs -/
theorem str_of (w : World) (b off cap k : Nat) (zs : List Int) (hz : Bytes zs) (hk : k ≤ zs.length)
    (hc : ∀ j, j < zs.length → w.cell? ⟨b, off + j, none⟩ = some (.int .u8 (zs.getD j 0))) :
    (convert 22 9 (.slice (some ⟨b, off, none⟩) k cap)).run Try.prog w = .ok (.string (asB (zs.take k))) w := by
  have h := run_convert_bytes_back (P := Try.prog) w 22 9 5 ⟨b, off, none⟩ cap ((zs.take k).map fun z => UInt8.ofNat z.toNat) Try.underlying22 Try.underlying5 Try.underlying9 (by
    intro j hj
    have hj' : j < k := by
      have h := hj
      rw [List.length_map, List.length_take] at h
      omega
    have e : (⟨b, off, none⟩ : Addr).add j = ⟨b, off + j, none⟩ := Addr.add_lit ..
    rw [e, hc j (by omega)]
    have hx := bytes_get hz j
    have e2 : zs[j]'(by omega) = zs.getD j 0 := by simp [List.getD, show j < zs.length by omega]
    simp only [List.getElem_map, List.getElem_take]
    rw [e2, UInt8.toNat_ofNat_of_lt' (show (zs.getD j 0).toNat < UInt8.size by have : UInt8.size = 256 := rfl; omega)]
    congr 2
    omega)
  have e3 : ((zs.take k).map fun z => UInt8.ofNat z.toNat).length = k := by simp; omega
  rw [e3] at h
  exact h

theorem str_nil (w : World) (ao : Option Addr) (cap : Nat) : (convert 22 9 (.slice ao 0 cap)).run Try.prog w = .ok (.string (asB [])) w := by
  cases ao with
  | some a => exact run_convert_bytes_back (P := Try.prog) w 22 9 5 a cap [] Try.underlying22 Try.underlying5 Try.underlying9 (by intro j hj; simp at hj)
  | none =>
    rw [run_convert_bytes_string w 22 9 5 none 0 cap Try.underlying22 Try.underlying5 Try.underlying9]
    rfl

theorem asB_nil : asB [] = ⟨#[]⟩ := rfl

theorem bytes_append {a b : List Int} (ha : Bytes a) (hb : Bytes b) : Bytes (a ++ b) := fun x hx => by
  rcases List.mem_append.1 hx with h | h
  · exact ha x h
  · exact hb x h
/-- 'string(row)' of an owned row of bytes -/
theorem str_own {w : World} {base : Nat} {v : Value} {zs : List Int} (h : w.ownsRow base 5 1 v zs.length (cellsByteS zs)) (hz : Bytes zs) :
    (convert 22 9 v).run Try.prog w = .ok (.string (asB zs)) w := by
  rcases rd_cases (rd_owns h) with ⟨h0, ao, cap, rfl⟩ | ⟨hp, b, off, cap, rfl, hcap, hlt, hc⟩
  · have hx : zs = [] := by simpa using h0
    subst hx
    exact str_nil w ao cap
  · have hla : (cellsByteS zs).length = zs.length := by simp
    rw [hla] at hc ⊢
    have hs := str_of w b off cap zs.length zs hz (Nat.le_refl _) (fun j hj => (hc j hj).trans (ints_get _ zs j hj))
    rwa [List.take_of_length_le (Nat.le_refl _)] at hs

/-- 'data[p:]' of a slice of bytes that can be read -/
theorem slice_from (b off n cap p : Nat) (hp : p ≤ n) (hc : n ≤ cap) : ∃ ao cap', n - p ≤ cap' ∧ (p < n → ao = some ⟨b, off + p, none⟩) ∧
    ∀ W : World, (Instr.slice 22 (.slice (some ⟨b, off, none⟩) n cap) (some (.int .i64 (p : Int))) none none).run Try.prog W = .ok (.slice ao (n - p) cap') W := by
  obtain ⟨i0, hi, hz0, hz1, hz2⟩ := info_parts Try.infoB
  have hel : Try.prog.elem 22 = 5 := by kernel_rfl
  have hsz : ∀ W : World, (sizeOf 5).run Try.prog W = .ok 1 W := fun W => by simp [sizeOf, typeInfo, hi, hz1]
  by_cases hcp : cap = p
  · refine ⟨some ⟨b, off, none⟩, cap - p, by omega, fun h => by omega, fun W => ?_⟩
    rw [run_slice_l W 22 _ n cap (by rw [hel]; exact Try.underlying22) .i64 _ (by omega) (by omega), hel, hsz]
    simp [Result.andThen, sliced, hcp]
  · refine ⟨some ⟨b, off + p, none⟩, cap - p, by omega, fun _ => rfl, fun W => ?_⟩
    rw [run_slice_l W 22 _ n cap (by rw [hel]; exact Try.underlying22) .i64 _ (by omega) (by omega), hel, hsz]
    simp [Result.andThen, sliced, hcp]
    exact Addr.add_lit ..

/-- '[]byte(s)' can be read -/
theorem rd_conv {w : World} {s : ByteArray} {cap : Nat} (hcap : s.size ≤ cap) (fr : Nat × Nat) :
    Rd (w.drew.alloc (.cells (bytesRow s cap) 5 fr)) (.slice (some ⟨w.heap.size, 0, none⟩) s.size cap) (cellsByteS (byts s)) := by
  have hla : (cellsByteS (byts s)).length = s.size := by rw [cellsByteS, List.length_map, byts_len]
  refine ⟨_, cap, by rw [hla], by rw [hla]; exact hcap, fun _ => ⟨w.heap.size, 0, rfl, by simp, fun j hj => ?_⟩⟩
  rw [hla] at hj
  rw [Nat.zero_add, ints_get _ _ j (by rw [byts_len]; exact hj)]
  exact conv_cells w s cap 5 fr j hj

theorem byts_bytes (s : ByteArray) : Bytes (byts s) := fun x hx => by
  obtain ⟨b, _, rfl⟩ := List.mem_map.1 hx
  have := b.toNat_lt
  omega
theorem bytes_drop {zs : List Int} (h : Bytes zs) (n : Nat) : Bytes (zs.drop n) := fun x hx => h x (List.mem_of_mem_drop hx)

/-- a cut of what can be read -/
theorem rd_cut {w : World} {b off n cap p : Nat} {zs : List Int} (h : Rd w (.slice (some ⟨b, off, none⟩) n cap) (cellsByteS zs)) (hn : zs.length = n) {ao : Option Addr} {cap' : Nat} (hc : n - p ≤ cap') (ha : p < n → ao = some ⟨b, off + p, none⟩) (hp : p ≤ n) :
    Rd w (.slice ao (n - p) cap') (cellsByteS (zs.drop p)) := by
  have hla : (cellsByteS (zs.drop p)).length = n - p := by simp; omega
  refine ⟨ao, cap', by rw [hla], by rw [hla]; exact hc, fun hne => ?_⟩
  have hpn : p < n := by
    by_cases hpn : p < n
    · exact hpn
    · exfalso; apply hne; rw [List.drop_of_length_le (by omega)]; rfl
  obtain ⟨ao', cap2, he, _, hx⟩ := h
  simp only [Value.slice.injEq] at he
  obtain ⟨rfl, _, _⟩ := he
  obtain ⟨b', off', hab, hlt, hcell⟩ := hx (by
    intro h0
    have : zs.length = 0 := by simpa using congrArg List.length h0
    omega)
  simp only [Option.some.injEq, Addr.mk.injEq, and_true] at hab
  obtain ⟨rfl, rfl⟩ := hab
  refine ⟨b, off + p, ha hpn, hlt, fun j hj => ?_⟩
  rw [hla] at hj
  rw [Nat.add_assoc, hcell (p + j) (by simp; omega)]
  simp [List.getElem?_drop]

end Go.Proofs.Ytfoncmeplofedae
