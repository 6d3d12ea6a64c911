/- CONTRACT: impl.ownText: a text of its own, by a strings.Builder that is written once. (After the guide's own proofs of the Builder's methods, at this cut's numbers.) -/
import Derived.Test.YtndecefcnalgdaaBasis
import Derived.Lib.Strings
import Derived.Lib.Walk
import Derived.Lib.Builder
import Derived.Lib.UnsafeStr
import Derived.Laws.Externs
import Derived.Laws.AppendOwn
namespace Go.Proofs.Ytndecefcnalgdaa
open Go.RowKit

theorem Try.sizeBuilder : (Try.prog.info? 108).map (·.size) = some 2 := by kernel_rfl
theorem Try.liesBuilder : liesAt Try.prog Try.prog.depth 108 (2 / Try.prog.cellsOf 108) 0 108 1 = true := by kernel_rfl

/-- a Builder's address as a bare one, and back -/
theorem addr_bare (b : Nat) (w : World) (hsh : w.shape? b = some (108, 2)) :
    (convert 106 116 (.pointer (some ⟨b, 0, none⟩))).run Try.prog w = .ok (.pointer (some ⟨b, 0, none⟩)) w := by
  obtain ⟨j, hj, hjs⟩ := Option.map_eq_some_iff.1 Try.sizeBuilder
  simp [convert, run_underlying Try.underlying106, run_underlying Try.underlying116, Conv.unsafePointer, Conv.seenAt, viewAt, cellsIn, hsh, sizeOf, typeInfo, hj, hjs]
theorem addr_back (b : Nat) (w : World) (hsh : w.shape? b = some (108, 2)) :
    (convert 116 106 (.pointer (some ⟨b, 0, none⟩))).run Try.prog w = .ok (.pointer (some ⟨b, 0, none⟩)) w := by
  obtain ⟨j, hj, hjs⟩ := Option.map_eq_some_iff.1 Try.sizeBuilder
  simp [convert, run_underlying Try.underlying106, run_underlying Try.underlying116, Conv.unsafePointer, Conv.seenAt, viewAt, hsh, variablesAt, Try.liesBuilder, sizeOf, typeInfo, hj]

set_option maxHeartbeats 1000000 in
set_option maxRecDepth 100000 in
theorem copyCheck_fresh (b : Nat) (v1 : Value) (w : World) (hb : w.heap[b]? = some (.cells #[.pointer none, v1] 108 (0, 0))) :
    Calls Try.prog 103 #[.pointer (some ⟨b, 0, none⟩)] w fun e w' => e = .returned (.tuple #[]) ∧ w' = w.setCell ⟨b, 0, none⟩ (.pointer (some ⟨b, 0, none⟩)) := by
  have h0 : w.cell? ⟨b, 0, none⟩ = some (.pointer none) := by rw [Lib.cell_of_heap hb]; rfl
  have hfz : w.frozen? ⟨b, 0, none⟩ = false := Lib.frozen_of_heap hb 0
  have hsh : w.shape? b = some (108, 2) := by simp [World.shape?, hb]
  go_enter Try.func103, Try.ntmps103
  go_wp2
  rw [addr_bare b w hsh]
  simp only [Result.andThen]
  rw [Oper.upon_value]
  go_wp2
  rw [run_callFunc_extern Try.func104 (by kernel_rfl) (by kernel_rfl) (by kernel_rfl) (e := Extern.AbiNoEscape.same) (by kernel_rfl)]
  rw [Lib.run_noEscape]
  simp only [Result.andThen]
  rw [Oper.upon_value]
  go_wp2
  rw [addr_back b w hsh]
  simp only [Result.andThen]
  rw [Oper.upon_value]
  go_wp2
  go_end0
  exact ⟨rfl, rfl⟩

set_option maxHeartbeats 1000000 in
set_option maxRecDepth 100000 in
/-- a fresh Builder is written once -/
theorem write_fresh (B b : Nat) (ad : Addr) (m c : Nat) (news : List Value) (w : World) (hBb : B ≤ b) (hbk : w.heap[b]? = some (.cells #[.pointer none, .slice none 0 0] 108 (0, 0)))
    (hl : news.length = m) (hnews : ∀ j u, news[j]? = some u → w.cell? (ad.add j) = some u) (hadB : ad.block < B) (h1 : ∀ u ∈ news, u.oneCell' = true) (hm : m ≤ 1000000) (hBw : B ≤ w.heap.size) :
    Calls Try.prog 98 #[.pointer (some ⟨b, 0, none⟩), .slice (some ad) m c] w fun e w' => e = .returned (.tuple #[.int .i64 m, .nilIface]) ∧
      (∃ v, w'.heap[b]? = some (.cells #[.pointer (some ⟨b, 0, none⟩), v] 108 (0, 0)) ∧ w'.ownsRow B 5 1 v m news ∧ (m = 0 → v = .slice none 0 0)) ∧ Below B w w' := by
  obtain ⟨i0, hi, hz0, hz1, hz2⟩ := info_parts Try.infoB
  have hlt : b < w.heap.size := (Array.getElem?_eq_some_iff.1 hbk).1
  go_enter Try.func98, Try.ntmps98
  go_wp2_with fail
  refine (copyCheck_fresh b _ w hbk).mono ?_
  rintro e w1 ⟨rfl, hw1⟩
  have hb1k : w1.heap[b]? = some (.cells #[.pointer (some ⟨b, 0, none⟩), .slice none 0 0] 108 (0, 0)) := by rw [hw1]; simp [World.setCell, Array.getElem?_modify, hbk]
  have hb1 : Below B w w1 := by rw [hw1]; exact (Below.refl B w).setCell (p := ⟨b, 0, none⟩) hBb _
  clear hw1
  have c0 : w1.cell? ⟨b, 0, none⟩ = some (.pointer (some ⟨b, 0, none⟩)) := by rw [Lib.cell_of_heap hb1k]; rfl
  have c1 : w1.cell? ⟨b, 1, none⟩ = some (.slice none 0 0) := by rw [Lib.cell_of_heap hb1k]; rfl
  have hnews1 : ∀ j u, news[j]? = some u → w1.cell? (ad.add j) = some u := fun j u hj => by rw [hb1.cell (p := ad.add j) (by unfold Addr.add; split <;> exact hadB)]; exact hnews j u hj
  go_wp2_with (at_builtin; refine wpList_append_own _ rfl _ _ 22 rfl B 5 i0 (.int .u8 0) 1 1 Try.underlying22 hi hz0 hz1 hz2 rfl (by decide) _ _ _ rfl (World.ownsRow_nil w1 B 5 1) ad m c news rfl (by omega) hnews1 h1 ?c3 ?c4 ?c5 ?_)
  case c3 => unfold maxLen; omega
  case c4 => omega
  case c5 => have := hb1.size; omega
  intro v' w2 hown' hgrow hnil
  have hlt1 : b < w1.heap.size := (Array.getElem?_eq_some_iff.1 hb1k).1
  have hb2 : w2.heap[b]? = some (.cells #[.pointer (some ⟨b, 0, none⟩), .slice none 0 0] 108 (0, 0)) := (hgrow.block b hlt1 (show some b ≠ none by simp)).trans hb1k
  have d0 : w2.cell? ⟨b, 0, none⟩ = some (.pointer (some ⟨b, 0, none⟩)) := by rw [Lib.cell_of_heap hb2]; rfl
  have d1 : w2.cell? ⟨b, 1, none⟩ = some (.slice none 0 0) := by rw [Lib.cell_of_heap hb2]; rfl
  have f1 : w2.frozen? ⟨b, 1, none⟩ = false := Lib.frozen_of_heap hb2 1
  have hB2 : Below B w w2 := hb1.grown hgrow (by have := hb1.size; omega) (fun k hk => by cases hk)
  obtain ⟨ao, n', cap, rfl⟩ : ∃ ao n' cap, v' = .slice ao n' cap := by
    rcases hown'.2 with ⟨hv, _⟩ | ⟨g, cap, cur, hv, _⟩
    · exact ⟨_, _, _, hv⟩
    · exact ⟨_, _, _, hv⟩
  have HNIL : Hid (m = 0 → Value.slice ao n' cap = .slice none 0 0) := hnil.2
  have HOWN : Hid (w2.ownsRow B 5 1 (.slice ao n' cap) m news) := hown'
  have HB2 : Hid (w2.heap[b]? = some (.cells #[.pointer (some ⟨b, 0, none⟩), .slice none 0 0] 108 (0, 0))) := hb2
  clear hnews hnews1 hb1k hbk c0 c1 hb1 hgrow hnil hown' hb2 hl h1
  go_wp2
  go_ret2
  refine ⟨rfl, ⟨.slice ao n' cap, ?_, ?_, HNIL.out⟩, hB2.setCell (p := ⟨b, 1, none⟩) hBb _⟩
  · have hb2 := HB2.out
    simp [World.setCell, Array.getElem?_modify, hb2]
  · exact HOWN.out.kept (row := some b) ⟨rfl, rfl, rfl, by simp [World.setCell], fun k _ hk => Below.heap_setCell _ _ _ _ (fun e => hk (by simp [e]))⟩ (Or.inr (Lib.ownBlock_ne HOWN.out HB2.out (by decide)))

theorem byteCells_of (zs : List Int) (hz : Bytes zs) : cellsByteS zs = Lib.byteCells (zs.map fun z => UInt8.ofNat z.toNat) := by
  unfold Lib.byteCells
  rw [cellsByteS, List.map_map]
  apply List.map_congr_left
  intro x hx
  have := hz x hx
  show Value.int .u8 x = Value.int .u8 ((UInt8.ofNat x.toNat).toNat : Int)
  rw [UInt8.toNat_ofNat_of_lt' (show x.toNat < UInt8.size by have : UInt8.size = 256 := rfl; omega)]
  congr 1
  omega

set_option maxHeartbeats 1000000 in
set_option maxRecDepth 100000 in
/-- the text of a Builder -/
theorem string_of (B b : Nat) (p v : Value) (zs : List Int) (w : World) (hz : Bytes zs) (hbk : w.heap[b]? = some (.cells #[p, v] 108 (0, 0))) (hown : w.ownsRow B 5 1 v zs.length (cellsByteS zs)) (hnil : zs.length = 0 → v = .slice none 0 0) :
    Calls Try.prog 99 #[.pointer (some ⟨b, 0, none⟩)] w fun e w' => e = .returned (.string (asB zs)) ∧ Below B w w' := by
  by_cases h0 : zs.length = 0
  · obtain rfl := hnil h0
    have e0 : zs = [] := List.eq_nil_of_length_eq_zero h0
    subst e0
    rw [asB_nil]
    have hUS : ∀ W : World, (Builtin.unsafeString_ #[115, 3] 9 #[.pointer none, .int .i64 0]).run Try.prog W = .ok (.string ⟨#[]⟩) W := fun W => Lib.run_unsafeString_none W _ _ _ none
    have c1 : w.drew.cell? ⟨b, 1, none⟩ = some (.slice none 0 0) := by
      have : w.drew.heap[b]? = some (.cells #[p, .slice none 0 0] 108 (0, 0)) := hbk
      rw [Lib.cell_of_heap this]; rfl
    have hSD : (Builtin.unsafeSliceData_ #[22] 115 #[.slice none 0 0]).run Try.prog w.drew = .ok (.pointer none) w.drew := rfl
    clear hown hbk hnil h0
    go_enter Try.func99, Try.ntmps99
    go_wp2
    go_region
    all_goals (go_wp2; go_ret; exact ⟨rfl, Below.drew (Below.refl B w)⟩)
  · have hco : Try.prog.cellsOf 5 = 1 := by
      obtain ⟨i0, hi, hz0, hz1, hz2⟩ := info_parts Try.infoB
      simp [Program.cellsOf, hi, hz1]
    rw [byteCells_of zs hz] at hown
    have hal : (⟨(zs.map fun z => UInt8.ofNat z.toNat).toArray⟩ : ByteArray) = asB zs := rfl
    have hln : (zs.map fun z => UInt8.ofNat z.toNat).length = zs.length := by simp
    rw [← hal]
    rw [← hln] at hown h0
    obtain ⟨l, hl⟩ : ∃ l, l = zs.map fun z => UInt8.ofNat z.toNat := ⟨_, rfl⟩
    rw [← hl] at hown h0 ⊢
    clear hl hal hln hnil
    obtain ⟨g, cap, cur, rfl, hbg, hg, hnc, hcm, hcs, htake⟩ : ∃ g cap cur, v = .slice (some ⟨g, 0, none⟩) l.length cap ∧ B ≤ g ∧ w.heap[g]? = some (.cells cur 5 (0, 0)) ∧ l.length ≤ cap ∧ cap ≤ maxLen ∧ cur.size = cap * 1 ∧ cur.toList.take (l.length * 1) = Lib.byteCells l := by
      rcases hown.2 with ⟨_, hz⟩ | ⟨g, cap, cur, hv, r⟩
      · exact absurd hz h0
      · exact ⟨g, cap, cur, hv, r⟩
    have c1 : w.drew.cell? ⟨b, 1, none⟩ = some (.slice (some ⟨g, 0, none⟩) l.length cap) := by
      have : w.drew.heap[b]? = some (.cells #[p, .slice (some ⟨g, 0, none⟩) l.length cap] 108 (0, 0)) := hbk
      rw [Lib.cell_of_heap this]; rfl
    have hSD : (Builtin.unsafeSliceData_ #[22] 115 #[.slice (some ⟨g, 0, none⟩) l.length cap]).run Try.prog w.drew = .ok (.pointer (some ⟨g, 0, none⟩)) w.drew :=
      Lib.run_unsafeSliceData_row _ _ _ _ _ _ (by omega)
    have hUS : (Builtin.unsafeString_ #[115, 3] 9 #[.pointer (some ⟨g, 0, none⟩), .int .i64 l.length]).run Try.prog w.drew = .ok (.string ⟨l.toArray⟩) (w.drew.freeze ⟨g, 0, none⟩ l.length) := by
      refine Lib.run_unsafeString_row w.drew 115 3 9 5 Try.underlying115 hco g cur.size (by have hg' : w.drew.heap[g]? = some (.cells cur 5 (0, 0)) := hg; simp [World.shape?, hg']) l (fun e => h0 (by rw [e]; rfl)) (by omega) (by unfold maxLen at hcm; omega) ?_
      intro j x hx
      have := hown.cells (g := g) rfl j (.int .u8 x.toNat) (by simp [Lib.byteCells, hx])
      exact this
    clear hown hbk hg htake hcs hco hz
    go_enter Try.func99, Try.ntmps99
    go_wp2
    go_region
    all_goals (go_wp2; go_ret; exact ⟨rfl, Lib.below_freeze (Below.drew (Below.refl B w)) (p := ⟨g, 0, none⟩) hbg _⟩)

set_option maxHeartbeats 1000000 in
set_option maxRecDepth 100000 in
theorem ownText_any (ad : Addr) (n c : Nat) (zs : List Int) (w : World) (hn : zs.length = n) (hz : Bytes zs) (hc : ∀ j u, (cellsByteS zs)[j]? = some u → w.cell? (ad.add j) = some u) (had : ad.block < w.heap.size) (hl : n ≤ 1000000) :
    Calls Try.prog 89 #[.slice (some ad) n c] w fun e w' => e = .returned (.string (asB zs)) ∧ Below w.heap.size w w' := by
  have hbk := heap_alloc_new w (.cells #[.pointer none, .slice none 0 0] 108)
  have hB := (Below.refl w.heap.size w).alloc (Nat.le_refl _) (.cells #[.pointer none, .slice none 0 0] 108)
  have hc1 : ∀ j u, (cellsByteS zs)[j]? = some u → (w.alloc (.cells #[.pointer none, .slice none 0 0] 108)).cell? (ad.add j) = some u := fun j u hj => by rw [hB.cell (p := ad.add j) (by unfold Addr.add; split <;> exact had)]; exact hc j u hj
  have h1c := ints_oneCell .u8 zs
  go_enter Try.func89, Try.ntmps89
  go_wp2_with fail
  refine (write_fresh w.heap.size w.heap.size ad n c (cellsByteS zs) _ (Nat.le_refl _) hbk (by simpa using hn) hc1 had h1c hl (by simp)).mono ?_
  rintro e w1 ⟨rfl, ⟨v, hb1, ho1, hnil⟩, hB1⟩
  rw [← hn] at ho1 hnil
  have hB2 := hB.trans hB1
  clear hc hc1 hbk hB h1c hB1
  go_wp2_with fail
  refine (string_of w.heap.size w.heap.size _ v zs w1 hz hb1 ho1 hnil).mono ?_
  rintro e w2 ⟨rfl, hB3⟩
  have hB4 := hB2.trans hB3
  clear hb1 ho1 hnil hB2 hB3
  go_wp2
  go_ret
  exact ⟨rfl, hB4⟩

end Go.Proofs.Ytndecefcnalgdaa
