/- CONTRACTS: a strings.Builder in a block of its own: its check, its text, what is written into it. (After the guide's own proofs of the Builder's methods, at this cut's numbers.) -/
import Derived.Test.YtdiammehnakchabBasis
import Derived.Lib.Strings
import Derived.Lib.Walk
import Derived.Lib.Builder
import Derived.Lib.UnsafeStr
import Derived.Laws.Externs
import Derived.Laws.AppendOwn
import Derived.Lib.AppendStr
import Derived.LaidEqlPtr
namespace Go.Proofs.Ytdiammehnakchab
open Go.RowKit

theorem Try.sizeBuilder : (Try.prog.info? 106).map (·.size) = some 2 := by kernel_rfl
theorem Try.liesBuilder : liesAt Try.prog Try.prog.depth 106 (2 / Try.prog.cellsOf 106) 0 106 1 = true := by kernel_rfl

/-- a Builder's address as a bare one, and back -/
theorem addr_bare (b : Nat) (w : World) (hsh : w.shape? b = some (106, 2)) :
    (convert 104 206 (.pointer (some ⟨b, 0, none⟩))).run Try.prog w = .ok (.pointer (some ⟨b, 0, none⟩)) w := by
  obtain ⟨j, hj, hjs⟩ := Option.map_eq_some_iff.1 Try.sizeBuilder
  simp [convert, run_underlying Try.underlying104, run_underlying Try.underlying206, Conv.unsafePointer, Conv.seenAt, viewAt, cellsIn, hsh, sizeOf, typeInfo, hj, hjs]
theorem addr_back (b : Nat) (w : World) (hsh : w.shape? b = some (106, 2)) :
    (convert 206 104 (.pointer (some ⟨b, 0, none⟩))).run Try.prog w = .ok (.pointer (some ⟨b, 0, none⟩)) w := by
  obtain ⟨j, hj, hjs⟩ := Option.map_eq_some_iff.1 Try.sizeBuilder
  simp [convert, run_underlying Try.underlying104, run_underlying Try.underlying206, Conv.unsafePointer, Conv.seenAt, viewAt, hsh, variablesAt, Try.liesBuilder, sizeOf, typeInfo, hj]

set_option maxHeartbeats 1000000 in
set_option maxRecDepth 100000 in
theorem copyCheck_fresh (b : Nat) (v1 : Value) (w : World) (hb : w.heap[b]? = some (.cells #[.pointer none, v1] 106 (0, 0))) :
    Calls Try.prog 155 #[.pointer (some ⟨b, 0, none⟩)] w fun e w' => e = .returned (.tuple #[]) ∧ w' = w.setCell ⟨b, 0, none⟩ (.pointer (some ⟨b, 0, none⟩)) := by
  have h0 : w.cell? ⟨b, 0, none⟩ = some (.pointer none) := by rw [Lib.cell_of_heap hb]; rfl
  have hfz : w.frozen? ⟨b, 0, none⟩ = false := Lib.frozen_of_heap hb 0
  have hsh : w.shape? b = some (106, 2) := by simp [World.shape?, hb]
  go_enter Try.func155, Try.ntmps155
  go_wp2
  rw [addr_bare b w hsh]
  simp only [Result.andThen]
  rw [Oper.upon_value]
  go_wp2
  rw [run_callFunc_extern Try.func187 (by kernel_rfl) (by kernel_rfl) (by kernel_rfl) (e := Extern.AbiNoEscape.same) (by kernel_rfl)]
  rw [Lib.run_noEscape]
  simp only [Result.andThen]
  rw [Oper.upon_value]
  go_wp2
  rw [addr_back b w hsh]
  simp only [Result.andThen]
  rw [Oper.upon_value]
  go_wp2
  go_end0
  exact ⟨rfl, rfl⟩

theorem byteCells_of (zs : List Int) (hz : Bytes zs) : cellsByteS zs = Lib.byteCells (zs.map fun z => UInt8.ofNat z.toNat) := by
  unfold Lib.byteCells
  rw [cellsByteS, List.map_map]
  apply List.map_congr_left
  intro x hx
  have := hz x hx
  show Value.int .u8 x = Value.int .u8 ((UInt8.ofNat x.toNat).toNat : Int)
  rw [UInt8.toNat_ofNat_of_lt' (show x.toNat < UInt8.size by have : UInt8.size = 256 := rfl; omega)]
  congr 1
  omega

set_option maxHeartbeats 1000000 in
set_option maxRecDepth 100000 in
/-- the text of a Builder -/
theorem string_of (B b : Nat) (p v : Value) (zs : List Int) (w : World) (hz : Bytes zs) (hbk : w.heap[b]? = some (.cells #[p, v] 106 (0, 0))) (hown : w.ownsRow B 5 1 v zs.length (cellsByteS zs)) (hnil : zs.length = 0 → v = .slice none 0 0) :
    Calls Try.prog 101 #[.pointer (some ⟨b, 0, none⟩)] w fun e w' => e = .returned (.string (asB zs)) ∧ Below B w w' := by
  by_cases h0 : zs.length = 0
  · obtain rfl := hnil h0
    have e0 : zs = [] := List.eq_nil_of_length_eq_zero h0
    subst e0
    rw [asB_nil]
    have hUS : ∀ W : World, (Builtin.unsafeString_ #[175, 3] 9 #[.pointer none, .int .i64 0]).run Try.prog W = .ok (.string ⟨#[]⟩) W := fun W => Lib.run_unsafeString_none W _ _ _ none
    have c1 : w.drew.cell? ⟨b, 1, none⟩ = some (.slice none 0 0) := by
      have : w.drew.heap[b]? = some (.cells #[p, .slice none 0 0] 106 (0, 0)) := hbk
      rw [Lib.cell_of_heap this]; rfl
    have hSD : (Builtin.unsafeSliceData_ #[22] 175 #[.slice none 0 0]).run Try.prog w.drew = .ok (.pointer none) w.drew := rfl
    clear hown hbk hnil h0
    go_enter Try.func101, Try.ntmps101
    go_wp2
    go_region
    all_goals (go_wp2; go_ret; exact ⟨rfl, Below.drew (Below.refl B w)⟩)
  · have hco : Try.prog.cellsOf 5 = 1 := by
      obtain ⟨i0, hi, hz0, hz1, hz2⟩ := info_parts Try.infoB
      simp [Program.cellsOf, hi, hz1]
    rw [byteCells_of zs hz] at hown
    have hal : (⟨(zs.map fun z => UInt8.ofNat z.toNat).toArray⟩ : ByteArray) = asB zs := rfl
    have hln : (zs.map fun z => UInt8.ofNat z.toNat).length = zs.length := by simp
    rw [← hal]
    rw [← hln] at hown h0
    obtain ⟨l, hl⟩ : ∃ l, l = zs.map fun z => UInt8.ofNat z.toNat := ⟨_, rfl⟩
    rw [← hl] at hown h0 ⊢
    clear hl hal hln hnil
    obtain ⟨g, cap, cur, rfl, hbg, hg, hnc, hcm, hcs, htake⟩ : ∃ g cap cur, v = .slice (some ⟨g, 0, none⟩) l.length cap ∧ B ≤ g ∧ w.heap[g]? = some (.cells cur 5 (0, 0)) ∧ l.length ≤ cap ∧ cap ≤ maxLen ∧ cur.size = cap * 1 ∧ cur.toList.take (l.length * 1) = Lib.byteCells l := by
      rcases hown.2 with ⟨_, hz⟩ | ⟨g, cap, cur, hv, r⟩
      · exact absurd hz h0
      · exact ⟨g, cap, cur, hv, r⟩
    have c1 : w.drew.cell? ⟨b, 1, none⟩ = some (.slice (some ⟨g, 0, none⟩) l.length cap) := by
      have : w.drew.heap[b]? = some (.cells #[p, .slice (some ⟨g, 0, none⟩) l.length cap] 106 (0, 0)) := hbk
      rw [Lib.cell_of_heap this]; rfl
    have hSD : (Builtin.unsafeSliceData_ #[22] 175 #[.slice (some ⟨g, 0, none⟩) l.length cap]).run Try.prog w.drew = .ok (.pointer (some ⟨g, 0, none⟩)) w.drew :=
      Lib.run_unsafeSliceData_row _ _ _ _ _ _ (by omega)
    have hUS : (Builtin.unsafeString_ #[175, 3] 9 #[.pointer (some ⟨g, 0, none⟩), .int .i64 l.length]).run Try.prog w.drew = .ok (.string ⟨l.toArray⟩) (w.drew.freeze ⟨g, 0, none⟩ l.length) := by
      refine Lib.run_unsafeString_row w.drew 175 3 9 5 Try.underlying175 hco g cur.size (by have hg' : w.drew.heap[g]? = some (.cells cur 5 (0, 0)) := hg; simp [World.shape?, hg']) l (fun e => h0 (by rw [e]; rfl)) (by omega) (by unfold maxLen at hcm; omega) ?_
      intro j x hx
      have := hown.cells (g := g) rfl j (.int .u8 x.toNat) (by simp [Lib.byteCells, hx])
      exact this
    clear hown hbk hg htake hcs hco hz
    go_enter Try.func101, Try.ntmps101
    go_wp2
    go_region
    all_goals (go_wp2; go_ret; exact ⟨rfl, Lib.below_freeze (Below.drew (Below.refl B w)) (p := ⟨g, 0, none⟩) hbg _⟩)


theorem strCells_bld (s : ByteArray) : Lib.strCells s = cellsByteS (byts s) := by
  simp [Lib.strCells, byts, Function.comp_def]
/-- a Builder in block b that holds these bytes, its buffer from block B on -/
def Bld (B b : Nat) (zs : List Int) (w : World) : Prop :=
  ∃ p v, w.heap[b]? = some (.cells #[p, v] 106 (0, 0)) ∧ (p = .pointer none ∨ p = .pointer (some ⟨b, 0, none⟩)) ∧ w.ownsRow B 5 1 v zs.length (cellsByteS zs) ∧ (zs.length = 0 → v = .slice none 0 0)
/-- all below B but block b is as it was -/
def Kp (B b : Nat) (w w' : World) : Prop := ∀ k, k < B → k ≠ b → k < w.heap.size → w'.heap[k]? = w.heap[k]?
theorem Kp.trans {B b : Nat} {w w' w'' : World} (h : Kp B b w w') (h2 : Kp B b w' w'') (hs : w.heap.size ≤ w'.heap.size) : Kp B b w w'' := fun k hk hb hl => (h2 k hk hb (by omega)).trans (h k hk hb hl)
theorem kp_set {B b : Nat} (w : World) (j : Nat) (v : Value) : Kp B b w (w.setCell ⟨b, j, none⟩ v) := fun k _ hk _ => Below.heap_setCell w ⟨b, j, none⟩ v k hk
theorem bld_new {B : Nat} (w : World) : Bld B w.heap.size [] (w.alloc (.cells #[.pointer none, .slice none 0 0] 106)) :=
  ⟨_, _, heap_alloc_new w _, .inl rfl, World.ownsRow_nil _ B 5 1, fun _ => rfl⟩
theorem bld_lt {B b : Nat} {zs : List Int} {w : World} (h : Bld B b zs w) : b < w.heap.size := by
  obtain ⟨p, v, hb, _⟩ := h
  exact (Array.getElem?_eq_some_iff.1 hb).1
/-- it stays where nothing below the world's end turns -/
theorem bld_below {B b : Nat} {zs : List Int} {w w' : World} (h : Bld B b zs w) (hb : Below w.heap.size w w') : Bld B b zs w' := by
  have hlt := bld_lt h
  obtain ⟨p, v, h2, h3, h4, h5⟩ := h
  exact ⟨p, v, (hb.block b hlt).trans h2, h3, owns_below h4 hb, h5⟩
/-- .. and where only one block turns that is none of its own -/
theorem bld_grown {B b k : Nat} {zs : List Int} {w w' : World} (h : Bld B b zs w) (hg : w.grownBy w' (some k)) (hk : k ≠ b) (hk2 : k < B) : Bld B b zs w' := by
  have hlt := bld_lt h
  obtain ⟨p, v, h2, h3, h4, h5⟩ := h
  exact ⟨p, v, (hg.block b hlt (fun e => by cases e; exact hk rfl)).trans h2, h3, owns_grown h4 hg (fun q hq e => by cases hq; have := (h4.lt _ e).1; omega), h5⟩

set_option maxHeartbeats 1000000 in
set_option maxRecDepth 100000 in
theorem copyCheck_any (C B b : Nat) (hC : C ≤ b) (zs : List Int) (w : World) (h : Bld B b zs w) :
    Calls Try.prog 155 #[.pointer (some ⟨b, 0, none⟩)] w fun e w' => e = .returned (.tuple #[]) ∧ (∃ v, w'.heap[b]? = some (.cells #[.pointer (some ⟨b, 0, none⟩), v] 106 (0, 0)) ∧ w'.ownsRow B 5 1 v zs.length (cellsByteS zs) ∧ (zs.length = 0 → v = .slice none 0 0)) ∧ Below C w w' ∧ Kp B b w w' := by
  obtain ⟨p, v, hb, hp, hown, hnil⟩ := h
  rcases hp with rfl | rfl
  · refine (copyCheck_fresh b v w hb).mono ?_
    rintro e w1 ⟨rfl, rfl⟩
    refine ⟨rfl, ⟨v, by simp [World.setCell, Array.getElem?_modify, hb], ?_, hnil⟩, (Below.refl C w).setCell (p := ⟨b, 0, none⟩) hC _, kp_set w 0 _⟩
    exact hown.kept (row := some b) ⟨rfl, rfl, rfl, by simp [World.setCell], fun k _ hk => Below.heap_setCell _ _ _ _ (fun e => hk (by simp [e]))⟩ (Or.inr (Lib.ownBlock_ne hown hb (by decide)))
  · have h0 : w.cell? ⟨b, 0, none⟩ = some (.pointer (some ⟨b, 0, none⟩)) := by rw [Lib.cell_of_heap hb]; rfl
    obtain ⟨j, hj, hjs⟩ := Option.map_eq_some_iff.1 Try.sizeBuilder
    have hn := fun w => Lib.run_neq_ptr_same (P := Try.prog) w (tp := 104) (⟨b, 0, none⟩ : Addr) Try.underlying104 hj
    have hfin : (∃ v, w.heap[b]? = some (.cells #[.pointer (some ⟨b, 0, none⟩), v] 106 (0, 0)) ∧ w.ownsRow B 5 1 v zs.length (cellsByteS zs) ∧ (zs.length = 0 → v = .slice none 0 0)) := ⟨v, hb, hown, hnil⟩
    clear hown hnil hb
    go_enter Try.func155, Try.ntmps155
    go_wp2
    go_end0
    exact ⟨rfl, hfin, Below.refl C w, fun _ _ _ _ => rfl⟩

set_option maxHeartbeats 1000000 in
set_option maxRecDepth 100000 in
theorem writeString_any (C B b : Nat) (hC : C ≤ b) (hCB : C ≤ B) (zs : List Int) (s : ByteArray) (w : World) (h : Bld B b zs w) (hl : zs.length + s.size ≤ 1099511627776) (hBw : B ≤ w.heap.size) :
    Calls Try.prog 100 #[.pointer (some ⟨b, 0, none⟩), .string s] w fun e w' => e = .returned (.tuple #[.int .i64 s.size, .nilIface]) ∧ Bld B b (zs ++ byts s) w' ∧ Below C w w' ∧ Kp B b w w' := by
  obtain ⟨i0, hi, hz0, hz1, hz2⟩ := info_parts Try.infoB
  have HC := copyCheck_any C B b hC zs w h
  clear h
  go_enter Try.func100, Try.ntmps100
  go_wp2_with fail
  refine HC.mono ?_
  rintro e w1 ⟨rfl, ⟨v, hbk, hown, hnil⟩, hb1, hk1⟩
  have HN0 : Hid (zs.length = 0 → v = .slice none 0 0) := hnil
  have HK1 : Hid (Kp B b w w1) := hk1
  clear HC hnil hk1
  have c1 : w1.cell? ⟨b, 1, none⟩ = some v := by rw [Lib.cell_of_heap hbk]; rfl
  have hlt1 : b < w1.heap.size := (Array.getElem?_eq_some_iff.1 hbk).1
  have hs1 := hb1.size
  go_wp2_with (at_builtin; refine Lib.wpList_append_own_string _ rfl _ _ 22 9 rfl B 5 i0 Try.underlying22 Try.underlying9 hi hz0 hz1 hz2 v _ _ rfl hown s rfl ?c3 ?c4 ?c5 ?_)
  case c3 => unfold maxLen; omega
  case c4 => omega
  case c5 => omega
  intro v' w2 ho2 hg2 hn2
  have hb2 : w2.heap[b]? = some (.cells #[.pointer (some ⟨b, 0, none⟩), v] 106 (0, 0)) := (hg2.block b hlt1 (fun e => Lib.ownBlock_ne hown hbk (by decide) e.symm)).trans hbk
  have d1 : w2.cell? ⟨b, 1, none⟩ = some v := by rw [Lib.cell_of_heap hb2]; rfl
  have f1 : w2.frozen? ⟨b, 1, none⟩ = false := Lib.frozen_of_heap hb2 1
  have hB2 : Below C w w2 := hb1.grown hg2 (by omega) (fun k hk => Nat.le_trans hCB (hown.lt k hk).1)
  have HK2 : Hid (Kp B b w w2) := HK1.out.trans (fun k hk _ hl => hg2.block k hl (fun e => by have := (hown.lt k e.symm).1; omega)) hs1
  rw [strCells_bld] at ho2
  have ho3 : w2.ownsRow B 5 1 v' (zs ++ byts s).length (cellsByteS (zs ++ byts s)) := by
    rw [List.length_append, byts_len, cellsByteS, List.map_append]
    exact ho2
  have hnil2 : (zs ++ byts s).length = 0 → v' = .slice none 0 0 := fun h0 => by
    have h1 : zs.length + s.size = 0 := by rw [List.length_append, byts_len] at h0; exact h0
    exact hn2.2 ⟨HN0.out (by omega), by first | omega | simpa using (show s.size = 0 by omega)⟩
  have HNIL : Hid ((zs ++ byts s).length = 0 → v' = .slice none 0 0) := hnil2
  have HO : Hid (w2.ownsRow B 5 1 v' (zs ++ byts s).length (cellsByteS (zs ++ byts s))) := ho3
  obtain ⟨ao, n', cap, rfl⟩ : ∃ ao n' cap, v' = .slice ao n' cap := by
    rcases HO.out.2 with ⟨hv, _⟩ | ⟨g, cap, cur, hv, _⟩
    · exact ⟨_, _, _, hv⟩
    · exact ⟨_, _, _, hv⟩
  have hs2 := hB2.size
  have HB2 : Hid (w2.heap[b]? = some (.cells #[.pointer (some ⟨b, 0, none⟩), v] 106 (0, 0))) := hb2
  clear hown hbk hb1 hg2 ho2 ho3 hn2 HN0 hnil2 hb2 c1 HK1
  go_wp2
  go_ret2
  refine ⟨rfl, ⟨_, .slice ao n' cap, ?_, .inr rfl, ?_, HNIL.out⟩, hB2.setCell (p := ⟨b, 1, none⟩) hC _, HK2.out.trans (kp_set w2 1 _) hs2⟩
  · have hb2 := HB2.out
    simp [World.setCell, Array.getElem?_modify, hb2]
  · exact HO.out.kept (row := some b) ⟨rfl, rfl, rfl, by simp [World.setCell], fun k _ hk => Below.heap_setCell _ _ _ _ (fun e => hk (by simp [e]))⟩ (Or.inr (Lib.ownBlock_ne HO.out HB2.out (by decide)))

set_option maxHeartbeats 1000000 in
set_option maxRecDepth 100000 in
theorem writeByte_any (C B b : Nat) (hC : C ≤ b) (hCB : C ≤ B) (zs : List Int) (c : Int) (w : World) (h : Bld B b zs w) (hl : zs.length + 1 ≤ 1099511627776) (hBw : B ≤ w.heap.size) :
    Calls Try.prog 107 #[.pointer (some ⟨b, 0, none⟩), .int .u8 c] w fun e w' => e = .returned .nilIface ∧ Bld B b (zs ++ [c]) w' ∧ Below C w w' ∧ Kp B b w w' := by
  obtain ⟨i0, hi, hz0, hz1, hz2⟩ := info_parts Try.infoB
  have HC := copyCheck_any C B b hC zs w h
  clear h
  go_enter Try.func107, Try.ntmps107
  go_wp2_with fail
  refine HC.mono ?_
  rintro e w1 ⟨rfl, ⟨v, hbk, hown, hnil⟩, hb1, hk1⟩
  have HK1 : Hid (Kp B b w w1) := hk1
  clear HC hnil hk1
  have c1 : w1.cell? ⟨b, 1, none⟩ = some v := by rw [Lib.cell_of_heap hbk]; rfl
  have hlt1 : b < w1.heap.size := (Array.getElem?_eq_some_iff.1 hbk).1
  have hs1 := hb1.size
  go_wp2_with (at_builtin; refine wpList_append_own _ rfl _ _ 22 rfl B 5 i0 (.int .u8 0) 1 1 Try.underlying22 hi hz0 hz1 hz2 rfl (by decide) v _ _ rfl (hown.alloc _) ⟨w1.heap.size, 0, none⟩ 1 1 [.int .u8 c] rfl rfl (one_cell w1 .u8 _ _) (ints_oneCell .u8 [c]) ?c3 ?c4 ?c5 ?_)
  case c3 => unfold maxLen; omega
  case c4 => omega
  case c5 => simp; omega
  intro v' w2 ho2 hg2 hn2
  have hbk1 := (Lib.alloc_old w1 (.cells #[.int .u8 c] 5) b hlt1).trans hbk
  have hown1 := World.ownsRow.alloc hown (.cells #[.int .u8 c] 5)
  have hsA := World.size_alloc w1 (.cells #[.int .u8 c] 5)
  have hb2 : w2.heap[b]? = some (.cells #[.pointer (some ⟨b, 0, none⟩), v] 106 (0, 0)) := (hg2.block b (by omega) (fun e => Lib.ownBlock_ne hown1 hbk1 (by decide) e.symm)).trans hbk1
  have d1 : w2.cell? ⟨b, 1, none⟩ = some v := by rw [Lib.cell_of_heap hb2]; rfl
  have f1 : w2.frozen? ⟨b, 1, none⟩ = false := Lib.frozen_of_heap hb2 1
  have hB2 : Below C w w2 := (hb1.alloc (by omega) (.cells #[.int .u8 c] 5)).grown hg2 (by omega) (fun k hk => Nat.le_trans hCB (hown.lt k hk).1)
  have HK2 : Hid (Kp B b w w2) := HK1.out.trans (fun k hk _ hl => (hg2.block k (by omega) (fun e => by have := (hown.lt k e.symm).1; omega)).trans (Lib.alloc_old w1 (.cells #[.int .u8 c] 5) k hl)) hs1
  have ho3 : w2.ownsRow B 5 1 v' (zs ++ [c]).length (cellsByteS (zs ++ [c])) := by
    rw [List.length_append, cellsByteS, List.map_append]
    exact ho2
  have HO : Hid (w2.ownsRow B 5 1 v' (zs ++ [c]).length (cellsByteS (zs ++ [c]))) := ho3
  obtain ⟨ao, n', cap, rfl⟩ : ∃ ao n' cap, v' = .slice ao n' cap := by
    rcases HO.out.2 with ⟨hv, _⟩ | ⟨g, cap, cur, hv, _⟩
    · exact ⟨_, _, _, hv⟩
    · exact ⟨_, _, _, hv⟩
  have hs2 := hB2.size
  have HB2 : Hid (w2.heap[b]? = some (.cells #[.pointer (some ⟨b, 0, none⟩), v] 106 (0, 0))) := hb2
  clear hown hown1 hbk hbk1 hb1 hg2 ho2 ho3 hn2 hb2 c1 HK1
  go_wp2
  go_ret
  refine ⟨rfl, ⟨_, .slice ao n' cap, ?_, .inr rfl, ?_, fun h0 => by simp at h0⟩, hB2.setCell (p := ⟨b, 1, none⟩) hC _, HK2.out.trans (kp_set w2 1 _) hs2⟩
  · have hb2 := HB2.out
    simp [World.setCell, Array.getElem?_modify, hb2]
  · exact HO.out.kept (row := some b) ⟨rfl, rfl, rfl, by simp [World.setCell], fun k _ hk => Below.heap_setCell _ _ _ _ (fun e => hk (by simp [e]))⟩ (Or.inr (Lib.ownBlock_ne HO.out HB2.out (by decide)))

set_option maxRecDepth 100000 in
theorem builderLen_any (B b : Nat) (zs : List Int) (w : World) (h : Bld B b zs w) :
    Calls Try.prog 99 #[.pointer (some ⟨b, 0, none⟩)] w fun e w' => e = .returned (.int .i64 zs.length) ∧ w' = w := by
  obtain ⟨p, v, hbk, _, hown, _⟩ := h
  have c1 : w.cell? ⟨b, 1, none⟩ = some v := by rw [Lib.cell_of_heap hbk]; rfl
  obtain ⟨ao, cap, rfl⟩ : ∃ ao cap, v = .slice ao zs.length cap := by
    rcases hown.2 with ⟨hv, h0⟩ | ⟨g, cap, cur, hv, _⟩
    · exact ⟨none, 0, by rw [hv, h0]⟩
    · exact ⟨_, _, hv⟩
  clear hown
  go_enter Try.func99, Try.ntmps99
  go_wp2
  go_ret
  exact ⟨rfl, rfl⟩

/-- its text -/
theorem builderText_any (C B b : Nat) (hCB : C ≤ B) (zs : List Int) (w : World) (hz : Bytes zs) (h : Bld B b zs w) :
    Calls Try.prog 101 #[.pointer (some ⟨b, 0, none⟩)] w fun e w' => e = .returned (.string (asB zs)) ∧ Below C w w' := by
  obtain ⟨p, v, hbk, _, hown, hnil⟩ := h
  exact (string_of B b p v zs w hz hbk hown hnil).mono fun e w' h => ⟨h.1, h.2.mono hCB⟩

end Go.Proofs.Ytdiammehnakchab
