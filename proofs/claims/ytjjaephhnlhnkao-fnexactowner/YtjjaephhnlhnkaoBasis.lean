/- THE PROGRAM's TYPES, and what the conversions between texts and bytes do. It speaks of no function of the program. -/
import Derived.Test.YtjjaephhnlhnkaoRows
import Derived.Test.YtjjaephhnlhnkaoRows1
import Derived.WalkKit
import Derived.WalkLawsBesides
import Derived.BigRegion
import Derived.Laws.IdiomStrings
import Derived.Laws.ResultCell
import Derived.OneCell
import Derived.Outline
import Derived.Deep.QuietTactic
import Derived.BigQuiet
namespace Go.Proofs.Ytjjaephhnlhnkao
open Go.RowKit

theorem Try.infoB : (Try.prog.info? 5).map (fun i => (i.zero, i.size, i.bytes)) = some (some (.int .u8 0), 1, 1) := by kernel_rfl
theorem Try.info64 : (Try.prog.info? 2).map (fun i => (i.zero, i.size, i.bytes)) = some (some (.int .i64 0), 1, 8) := by kernel_rfl
theorem one_cell (w : World) (k : IntKind) (z : Int) (t : TypeId) : ∀ j u, ([Value.int k z] : List Value)[j]? = some u → (w.alloc (.cells #[Value.int k z] t)).cell? ((⟨w.heap.size, 0, none⟩ : Addr).add j) = some u := by
  intro j u hj
  match j, hj with
  | 0, hj => simp at hj; subst hj; simp [Addr.add]

theorem drop_getD (L : List Int) (j : Nat) (h : j < L.length) : L.drop j = L.getD j 0 :: L.drop (j + 1) := by
  rw [List.drop_eq_getElem_cons h]; simp [List.getD, h]

/-- a string's bytes as numbers -/
def byts (s : ByteArray) : List Int := s.data.toList.map fun b => (b.toNat : Int)
theorem byts_len (s : ByteArray) : (byts s).length = s.size := by simp [byts]

theorem byts_get (s : ByteArray) (j : Nat) (h : j < s.data.size) : (byts s).getD j 0 = (s.data[j].toNat : Int) := by
  have h' : j < s.data.toList.length := h
  rw [List.getD, byts, List.getElem?_map, List.getElem?_eq_getElem h']
  rfl

theorem conv_cells (w : World) (t : ByteArray) (cap : Nat) (E : TypeId) (fr : Nat × Nat) : ∀ j, j < t.size → ((w.alloc (.cells (bytesRow t cap) E fr)).drew.drew).cell? ⟨w.heap.size, j, none⟩ = some (.int .u8 ((byts t).getD j 0)) := by
  intro j hj
  rw [byts_get t j hj]
  exact (World.cell?_alloc_mark w _ E fr j).trans (bytesRow_at t cap j hj)

theorem byts_range (t : ByteArray) (j : Nat) : 0 ≤ (byts t).getD j 0 ∧ (byts t).getD j 0 ≤ 255 := by
  by_cases h : j < t.data.size
  · rw [byts_get t j h]
    have := t.data[j].toNat_lt
    omega
  · have e : (byts t).getD j 0 = 0 := by
      rw [List.getD, List.getElem?_eq_none (by rw [byts_len]; exact Nat.le_of_not_lt h)]; rfl
    omega

def Bytes (zs : List Int) : Prop := ∀ x ∈ zs, 0 ≤ x ∧ x ≤ 255
theorem bytes_get {zs : List Int} (h : Bytes zs) (j : Nat) : 0 ≤ zs.getD j 0 ∧ zs.getD j 0 ≤ 255 := by
  by_cases hj : j < zs.length
  · have e : zs.getD j 0 = zs[j] := by simp [List.getD, hj]
    rw [e]; exact h _ (List.getElem_mem hj)
  · have e : zs.getD j 0 = 0 := by rw [List.getD, List.getElem?_eq_none (Nat.le_of_not_lt hj)]; rfl
    omega

theorem take_getD (zs : List Int) (n j : Nat) (h : j < n) : (zs.take n).getD j 0 = zs.getD j 0 := by
  simp [List.getD, h]


end Go.Proofs.Ytjjaephhnlhnkao
