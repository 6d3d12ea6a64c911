/- CONTRACT: impl.ownText: a text of its own, by a strings.Builder that is written once. (After the guide's own proofs of the Builder's methods, at this cut's numbers.) -/
import Derived.Test.YtdiammehnakchacGreatBld
import Derived.Lib.Strings
import Derived.Lib.Walk
import Derived.Lib.Builder
import Derived.Lib.UnsafeStr
import Derived.Laws.Externs
import Derived.Laws.AppendOwn
namespace Go.Proofs.YtdiammehnakchacGreat
open Go.RowKit

set_option maxHeartbeats 1000000 in
set_option maxRecDepth 100000 in
/-- a fresh Builder is written once -/
theorem write_fresh (B b : Nat) (ad : Addr) (m c : Nat) (news : List Value) (w : World) (hBb : B ≤ b) (hbk : w.heap[b]? = some (.cells #[.pointer none, .slice none 0 0] 108 (0, 0)))
    (hl : news.length = m) (hnews : ∀ j u, news[j]? = some u → w.cell? (ad.add j) = some u) (hadB : ad.block < B) (h1 : ∀ u ∈ news, u.oneCell' = true) (hm : m ≤ 4194304) (hBw : B ≤ w.heap.size) :
    Calls Tryz.prog 79 #[.pointer (some ⟨b, 0, none⟩), .slice (some ad) m c] w fun e w' => e = .returned (.tuple #[.int .i64 m, .nilIface]) ∧
      (∃ v, w'.heap[b]? = some (.cells #[.pointer (some ⟨b, 0, none⟩), v] 108 (0, 0)) ∧ w'.ownsRow B 5 1 v m news ∧ (m = 0 → v = .slice none 0 0)) ∧ Below B w w' := by
  obtain ⟨i0, hi, hz0, hz1, hz2⟩ := info_parts Tryz.infoB
  have hlt : b < w.heap.size := (Array.getElem?_eq_some_iff.1 hbk).1
  go_enter Tryz.func79, Tryz.ntmps79
  go_wp2_with fail
  refine (copyCheck_fresh b _ w hbk).mono ?_
  rintro e w1 ⟨rfl, hw1⟩
  have hb1k : w1.heap[b]? = some (.cells #[.pointer (some ⟨b, 0, none⟩), .slice none 0 0] 108 (0, 0)) := by rw [hw1]; simp [World.setCell, Array.getElem?_modify, hbk]
  have hb1 : Below B w w1 := by rw [hw1]; exact (Below.refl B w).setCell (p := ⟨b, 0, none⟩) hBb _
  clear hw1
  have c0 : w1.cell? ⟨b, 0, none⟩ = some (.pointer (some ⟨b, 0, none⟩)) := by rw [Lib.cell_of_heap hb1k]; rfl
  have c1 : w1.cell? ⟨b, 1, none⟩ = some (.slice none 0 0) := by rw [Lib.cell_of_heap hb1k]; rfl
  have hnews1 : ∀ j u, news[j]? = some u → w1.cell? (ad.add j) = some u := fun j u hj => by rw [hb1.cell (p := ad.add j) (by unfold Addr.add; split <;> exact hadB)]; exact hnews j u hj
  go_wp2_with (at_builtin; refine wpList_append_own _ rfl _ _ 22 rfl B 5 i0 (.int .u8 0) 1 1 Tryz.underlying22 hi hz0 hz1 hz2 rfl (by decide) _ _ _ rfl (World.ownsRow_nil w1 B 5 1) ad m c news rfl (by omega) hnews1 h1 ?c3 ?c4 ?c5 ?_)
  case c3 => unfold maxLen; omega
  case c4 => omega
  case c5 => have := hb1.size; omega
  intro v' w2 hown' hgrow hnil
  have hlt1 : b < w1.heap.size := (Array.getElem?_eq_some_iff.1 hb1k).1
  have hb2 : w2.heap[b]? = some (.cells #[.pointer (some ⟨b, 0, none⟩), .slice none 0 0] 108 (0, 0)) := (hgrow.block b hlt1 (show some b ≠ none by simp)).trans hb1k
  have d0 : w2.cell? ⟨b, 0, none⟩ = some (.pointer (some ⟨b, 0, none⟩)) := by rw [Lib.cell_of_heap hb2]; rfl
  have d1 : w2.cell? ⟨b, 1, none⟩ = some (.slice none 0 0) := by rw [Lib.cell_of_heap hb2]; rfl
  have f1 : w2.frozen? ⟨b, 1, none⟩ = false := Lib.frozen_of_heap hb2 1
  have hB2 : Below B w w2 := hb1.grown hgrow (by have := hb1.size; omega) (fun k hk => by cases hk)
  obtain ⟨ao, n', cap, rfl⟩ : ∃ ao n' cap, v' = .slice ao n' cap := by
    rcases hown'.2 with ⟨hv, _⟩ | ⟨g, cap, cur, hv, _⟩
    · exact ⟨_, _, _, hv⟩
    · exact ⟨_, _, _, hv⟩
  have HNIL : Hid (m = 0 → Value.slice ao n' cap = .slice none 0 0) := hnil.2
  have HOWN : Hid (w2.ownsRow B 5 1 (.slice ao n' cap) m news) := hown'
  have HB2 : Hid (w2.heap[b]? = some (.cells #[.pointer (some ⟨b, 0, none⟩), .slice none 0 0] 108 (0, 0))) := hb2
  clear hnews hnews1 hb1k hbk c0 c1 hb1 hgrow hnil hown' hb2 hl h1
  go_wp2
  go_ret2
  refine ⟨rfl, ⟨.slice ao n' cap, ?_, ?_, HNIL.out⟩, hB2.setCell (p := ⟨b, 1, none⟩) hBb _⟩
  · have hb2 := HB2.out
    simp [World.setCell, Array.getElem?_modify, hb2]
  · exact HOWN.out.kept (row := some b) ⟨rfl, rfl, rfl, by simp [World.setCell], fun k _ hk => Below.heap_setCell _ _ _ _ (fun e => hk (by simp [e]))⟩ (Or.inr (Lib.ownBlock_ne HOWN.out HB2.out (by decide)))

set_option maxHeartbeats 1000000 in
set_option maxRecDepth 100000 in
theorem ownText_any (ad : Addr) (n c : Nat) (zs : List Int) (w : World) (hn : zs.length = n) (hz : Bytes zs) (hc : ∀ j u, (cellsByteS zs)[j]? = some u → w.cell? (ad.add j) = some u) (had : ad.block < w.heap.size) (hl : n ≤ 4194304) :
    Calls Tryz.prog 59 #[.slice (some ad) n c] w fun e w' => e = .returned (.string (asB zs)) ∧ Below w.heap.size w w' := by
  have hbk := heap_alloc_new w (.cells #[.pointer none, .slice none 0 0] 108)
  have hB := (Below.refl w.heap.size w).alloc (Nat.le_refl _) (.cells #[.pointer none, .slice none 0 0] 108)
  have hc1 : ∀ j u, (cellsByteS zs)[j]? = some u → (w.alloc (.cells #[.pointer none, .slice none 0 0] 108)).cell? (ad.add j) = some u := fun j u hj => by rw [hB.cell (p := ad.add j) (by unfold Addr.add; split <;> exact had)]; exact hc j u hj
  have h1c := ints_oneCell .u8 zs
  go_enter Tryz.func59, Tryz.ntmps59
  go_wp2_with fail
  refine (write_fresh w.heap.size w.heap.size ad n c (cellsByteS zs) _ (Nat.le_refl _) hbk (by simpa using hn) hc1 had h1c hl (by simp)).mono ?_
  rintro e w1 ⟨rfl, ⟨v, hb1, ho1, hnil⟩, hB1⟩
  rw [← hn] at ho1 hnil
  have hB2 := hB.trans hB1
  clear hc hc1 hbk hB h1c hB1
  go_wp2_with fail
  refine (string_of w.heap.size w.heap.size _ v zs w1 hz hb1 ho1 hnil).mono ?_
  rintro e w2 ⟨rfl, hB3⟩
  have hB4 := hB2.trans hB3
  clear hb1 ho1 hnil hB2 hB3
  go_wp2
  go_ret
  exact ⟨rfl, hB4⟩

end Go.Proofs.YtdiammehnakchacGreat
