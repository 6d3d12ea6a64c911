/- CONTRACTS: a strings.Builder in a block of its own: its check, its text, what is written into it. (After the guide's own proofs of the Builder's methods, at this cut's numbers.) -/
import Derived.Test.YtdiammehnakchacGreatBasis
import Derived.Lib.Strings
import Derived.Lib.Walk
import Derived.Lib.Builder
import Derived.Lib.UnsafeStr
import Derived.Laws.Externs
import Derived.Laws.AppendOwn
import Derived.Lib.AppendStr
import Derived.LaidEqlPtr
namespace Go.Proofs.YtdiammehnakchacGreat
open Go.RowKit

theorem Tryz.sizeBuilder : (Tryz.prog.info? 108).map (·.size) = some 2 := by kernel_rfl
theorem Tryz.liesBuilder : liesAt Tryz.prog Tryz.prog.depth 108 (2 / Tryz.prog.cellsOf 108) 0 108 1 = true := by kernel_rfl

/-- a Builder's address as a bare one, and back -/
theorem addr_bare (b : Nat) (w : World) (hsh : w.shape? b = some (108, 2)) :
    (convert 106 137 (.pointer (some ⟨b, 0, none⟩))).run Tryz.prog w = .ok (.pointer (some ⟨b, 0, none⟩)) w := by
  obtain ⟨j, hj, hjs⟩ := Option.map_eq_some_iff.1 Tryz.sizeBuilder
  simp [convert, run_underlying Tryz.underlying106, run_underlying Tryz.underlying137, Conv.unsafePointer, Conv.seenAt, viewAt, cellsIn, hsh, sizeOf, typeInfo, hj, hjs]
theorem addr_back (b : Nat) (w : World) (hsh : w.shape? b = some (108, 2)) :
    (convert 137 106 (.pointer (some ⟨b, 0, none⟩))).run Tryz.prog w = .ok (.pointer (some ⟨b, 0, none⟩)) w := by
  obtain ⟨j, hj, hjs⟩ := Option.map_eq_some_iff.1 Tryz.sizeBuilder
  simp [convert, run_underlying Tryz.underlying106, run_underlying Tryz.underlying137, Conv.unsafePointer, Conv.seenAt, viewAt, hsh, variablesAt, Tryz.liesBuilder, sizeOf, typeInfo, hj]

set_option maxHeartbeats 1000000 in
set_option maxRecDepth 100000 in
theorem copyCheck_fresh (b : Nat) (v1 : Value) (w : World) (hb : w.heap[b]? = some (.cells #[.pointer none, v1] 108 (0, 0))) :
    Calls Tryz.prog 97 #[.pointer (some ⟨b, 0, none⟩)] w fun e w' => e = .returned (.tuple #[]) ∧ w' = w.setCell ⟨b, 0, none⟩ (.pointer (some ⟨b, 0, none⟩)) := by
  have h0 : w.cell? ⟨b, 0, none⟩ = some (.pointer none) := by rw [Lib.cell_of_heap hb]; rfl
  have hfz : w.frozen? ⟨b, 0, none⟩ = false := Lib.frozen_of_heap hb 0
  have hsh : w.shape? b = some (108, 2) := by simp [World.shape?, hb]
  go_enter Tryz.func97, Tryz.ntmps97
  go_wp2
  rw [addr_bare b w hsh]
  simp only [Result.andThen]
  rw [Oper.upon_value]
  go_wp2
  rw [run_callFunc_extern Tryz.func103 (by kernel_rfl) (by kernel_rfl) (by kernel_rfl) (e := Extern.AbiNoEscape.same) (by kernel_rfl)]
  rw [Lib.run_noEscape]
  simp only [Result.andThen]
  rw [Oper.upon_value]
  go_wp2
  rw [addr_back b w hsh]
  simp only [Result.andThen]
  rw [Oper.upon_value]
  go_wp2
  go_end0
  exact ⟨rfl, rfl⟩

theorem byteCells_of (zs : List Int) (hz : Bytes zs) : cellsByteS zs = Lib.byteCells (zs.map fun z => UInt8.ofNat z.toNat) := by
  unfold Lib.byteCells
  rw [cellsByteS, List.map_map]
  apply List.map_congr_left
  intro x hx
  have := hz x hx
  show Value.int .u8 x = Value.int .u8 ((UInt8.ofNat x.toNat).toNat : Int)
  rw [UInt8.toNat_ofNat_of_lt' (show x.toNat < UInt8.size by have : UInt8.size = 256 := rfl; omega)]
  congr 1
  omega

set_option maxHeartbeats 1000000 in
set_option maxRecDepth 100000 in
/-- the text of a Builder -/
theorem string_of (B b : Nat) (p v : Value) (zs : List Int) (w : World) (hz : Bytes zs) (hbk : w.heap[b]? = some (.cells #[p, v] 108 (0, 0))) (hown : w.ownsRow B 5 1 v zs.length (cellsByteS zs)) (hnil : zs.length = 0 → v = .slice none 0 0) :
    Calls Tryz.prog 80 #[.pointer (some ⟨b, 0, none⟩)] w fun e w' => e = .returned (.string (asB zs)) ∧ Below B w w' := by
  by_cases h0 : zs.length = 0
  · obtain rfl := hnil h0
    have e0 : zs = [] := List.eq_nil_of_length_eq_zero h0
    subst e0
    rw [asB_nil]
    have hUS : ∀ W : World, (Builtin.unsafeString_ #[130, 3] 9 #[.pointer none, .int .i64 0]).run Tryz.prog W = .ok (.string ⟨#[]⟩) W := fun W => Lib.run_unsafeString_none W _ _ _ none
    have c1 : w.drew.cell? ⟨b, 1, none⟩ = some (.slice none 0 0) := by
      have : w.drew.heap[b]? = some (.cells #[p, .slice none 0 0] 108 (0, 0)) := hbk
      rw [Lib.cell_of_heap this]; rfl
    have hSD : (Builtin.unsafeSliceData_ #[22] 130 #[.slice none 0 0]).run Tryz.prog w.drew = .ok (.pointer none) w.drew := rfl
    clear hown hbk hnil h0
    go_enter Tryz.func80, Tryz.ntmps80
    go_wp2
    go_region
    all_goals (go_wp2; go_ret; exact ⟨rfl, Below.drew (Below.refl B w)⟩)
  · have hco : Tryz.prog.cellsOf 5 = 1 := by
      obtain ⟨i0, hi, hz0, hz1, hz2⟩ := info_parts Tryz.infoB
      simp [Program.cellsOf, hi, hz1]
    rw [byteCells_of zs hz] at hown
    have hal : (⟨(zs.map fun z => UInt8.ofNat z.toNat).toArray⟩ : ByteArray) = asB zs := rfl
    have hln : (zs.map fun z => UInt8.ofNat z.toNat).length = zs.length := by simp
    rw [← hal]
    rw [← hln] at hown h0
    obtain ⟨l, hl⟩ : ∃ l, l = zs.map fun z => UInt8.ofNat z.toNat := ⟨_, rfl⟩
    rw [← hl] at hown h0 ⊢
    clear hl hal hln hnil
    obtain ⟨g, cap, cur, rfl, hbg, hg, hnc, hcm, hcs, htake⟩ : ∃ g cap cur, v = .slice (some ⟨g, 0, none⟩) l.length cap ∧ B ≤ g ∧ w.heap[g]? = some (.cells cur 5 (0, 0)) ∧ l.length ≤ cap ∧ cap ≤ maxLen ∧ cur.size = cap * 1 ∧ cur.toList.take (l.length * 1) = Lib.byteCells l := by
      rcases hown.2 with ⟨_, hz⟩ | ⟨g, cap, cur, hv, r⟩
      · exact absurd hz h0
      · exact ⟨g, cap, cur, hv, r⟩
    have c1 : w.drew.cell? ⟨b, 1, none⟩ = some (.slice (some ⟨g, 0, none⟩) l.length cap) := by
      have : w.drew.heap[b]? = some (.cells #[p, .slice (some ⟨g, 0, none⟩) l.length cap] 108 (0, 0)) := hbk
      rw [Lib.cell_of_heap this]; rfl
    have hSD : (Builtin.unsafeSliceData_ #[22] 130 #[.slice (some ⟨g, 0, none⟩) l.length cap]).run Tryz.prog w.drew = .ok (.pointer (some ⟨g, 0, none⟩)) w.drew :=
      Lib.run_unsafeSliceData_row _ _ _ _ _ _ (by omega)
    have hUS : (Builtin.unsafeString_ #[130, 3] 9 #[.pointer (some ⟨g, 0, none⟩), .int .i64 l.length]).run Tryz.prog w.drew = .ok (.string ⟨l.toArray⟩) (w.drew.freeze ⟨g, 0, none⟩ l.length) := by
      refine Lib.run_unsafeString_row w.drew 130 3 9 5 Tryz.underlying130 hco g cur.size (by have hg' : w.drew.heap[g]? = some (.cells cur 5 (0, 0)) := hg; simp [World.shape?, hg']) l (fun e => h0 (by rw [e]; rfl)) (by omega) (by unfold maxLen at hcm; omega) ?_
      intro j x hx
      have := hown.cells (g := g) rfl j (.int .u8 x.toNat) (by simp [Lib.byteCells, hx])
      exact this
    clear hown hbk hg htake hcs hco hz
    go_enter Tryz.func80, Tryz.ntmps80
    go_wp2
    go_region
    all_goals (go_wp2; go_ret; exact ⟨rfl, Lib.below_freeze (Below.drew (Below.refl B w)) (p := ⟨g, 0, none⟩) hbg _⟩)


theorem strCells_bld (s : ByteArray) : Lib.strCells s = cellsByteS (byts s) := by
  simp [Lib.strCells, byts, Function.comp_def]
/-- a Builder in block b that holds these bytes, its buffer from block B on -/
def Bld (B b : Nat) (zs : List Int) (w : World) : Prop :=
  ∃ p v, w.heap[b]? = some (.cells #[p, v] 108 (0, 0)) ∧ (p = .pointer none ∨ p = .pointer (some ⟨b, 0, none⟩)) ∧ w.ownsRow B 5 1 v zs.length (cellsByteS zs) ∧ (zs.length = 0 → v = .slice none 0 0)
/-- all below B but block b is as it was -/
def Kp (B b : Nat) (w w' : World) : Prop := ∀ k, k < B → k ≠ b → k < w.heap.size → w'.heap[k]? = w.heap[k]?
theorem Kp.trans {B b : Nat} {w w' w'' : World} (h : Kp B b w w') (h2 : Kp B b w' w'') (hs : w.heap.size ≤ w'.heap.size) : Kp B b w w'' := fun k hk hb hl => (h2 k hk hb (by omega)).trans (h k hk hb hl)
theorem kp_set {B b : Nat} (w : World) (j : Nat) (v : Value) : Kp B b w (w.setCell ⟨b, j, none⟩ v) := fun k _ hk _ => Below.heap_setCell w ⟨b, j, none⟩ v k hk
theorem bld_new {B : Nat} (w : World) : Bld B w.heap.size [] (w.alloc (.cells #[.pointer none, .slice none 0 0] 108)) :=
  ⟨_, _, heap_alloc_new w _, .inl rfl, World.ownsRow_nil _ B 5 1, fun _ => rfl⟩
theorem bld_lt {B b : Nat} {zs : List Int} {w : World} (h : Bld B b zs w) : b < w.heap.size := by
  obtain ⟨p, v, hb, _⟩ := h
  exact (Array.getElem?_eq_some_iff.1 hb).1
/-- it stays where nothing below the world's end turns -/
theorem bld_below {B b : Nat} {zs : List Int} {w w' : World} (h : Bld B b zs w) (hb : Below w.heap.size w w') : Bld B b zs w' := by
  have hlt := bld_lt h
  obtain ⟨p, v, h2, h3, h4, h5⟩ := h
  exact ⟨p, v, (hb.block b hlt).trans h2, h3, owns_below h4 hb, h5⟩
/-- .. and where only one block turns that is none of its own -/
theorem bld_grown {B b k : Nat} {zs : List Int} {w w' : World} (h : Bld B b zs w) (hg : w.grownBy w' (some k)) (hk : k ≠ b) (hk2 : k < B) : Bld B b zs w' := by
  have hlt := bld_lt h
  obtain ⟨p, v, h2, h3, h4, h5⟩ := h
  exact ⟨p, v, (hg.block b hlt (fun e => by cases e; exact hk rfl)).trans h2, h3, owns_grown h4 hg (fun q hq e => by cases hq; have := (h4.lt _ e).1; omega), h5⟩

set_option maxHeartbeats 1000000 in
set_option maxRecDepth 100000 in
theorem copyCheck_any (C B b : Nat) (hC : C ≤ b) (zs : List Int) (w : World) (h : Bld B b zs w) :
    Calls Tryz.prog 97 #[.pointer (some ⟨b, 0, none⟩)] w fun e w' => e = .returned (.tuple #[]) ∧ (∃ v, w'.heap[b]? = some (.cells #[.pointer (some ⟨b, 0, none⟩), v] 108 (0, 0)) ∧ w'.ownsRow B 5 1 v zs.length (cellsByteS zs) ∧ (zs.length = 0 → v = .slice none 0 0)) ∧ Below C w w' ∧ Kp B b w w' := by
  obtain ⟨p, v, hb, hp, hown, hnil⟩ := h
  rcases hp with rfl | rfl
  · refine (copyCheck_fresh b v w hb).mono ?_
    rintro e w1 ⟨rfl, rfl⟩
    refine ⟨rfl, ⟨v, by simp [World.setCell, Array.getElem?_modify, hb], ?_, hnil⟩, (Below.refl C w).setCell (p := ⟨b, 0, none⟩) hC _, kp_set w 0 _⟩
    exact hown.kept (row := some b) ⟨rfl, rfl, rfl, by simp [World.setCell], fun k _ hk => Below.heap_setCell _ _ _ _ (fun e => hk (by simp [e]))⟩ (Or.inr (Lib.ownBlock_ne hown hb (by decide)))
  · have h0 : w.cell? ⟨b, 0, none⟩ = some (.pointer (some ⟨b, 0, none⟩)) := by rw [Lib.cell_of_heap hb]; rfl
    obtain ⟨j, hj, hjs⟩ := Option.map_eq_some_iff.1 Tryz.sizeBuilder
    have hn := fun w => Lib.run_neq_ptr_same (P := Tryz.prog) w (tp := 106) (⟨b, 0, none⟩ : Addr) Tryz.underlying106 hj
    have hfin : (∃ v, w.heap[b]? = some (.cells #[.pointer (some ⟨b, 0, none⟩), v] 108 (0, 0)) ∧ w.ownsRow B 5 1 v zs.length (cellsByteS zs) ∧ (zs.length = 0 → v = .slice none 0 0)) := ⟨v, hb, hown, hnil⟩
    clear hown hnil hb
    go_enter Tryz.func97, Tryz.ntmps97
    go_wp2
    go_end0
    exact ⟨rfl, hfin, Below.refl C w, fun _ _ _ _ => rfl⟩




/-- its text -/
theorem builderText_any (C B b : Nat) (hCB : C ≤ B) (zs : List Int) (w : World) (hz : Bytes zs) (h : Bld B b zs w) :
    Calls Tryz.prog 80 #[.pointer (some ⟨b, 0, none⟩)] w fun e w' => e = .returned (.string (asB zs)) ∧ Below C w w' := by
  obtain ⟨p, v, hbk, _, hown, hnil⟩ := h
  exact (string_of B b p v zs w hz hbk hown hnil).mono fun e w' h => ⟨h.1, h.2.mono hCB⟩

end Go.Proofs.YtdiammehnakchacGreat
