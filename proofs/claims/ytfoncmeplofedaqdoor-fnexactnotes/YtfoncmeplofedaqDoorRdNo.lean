/- CONTRACT: the program's readNotes: a disk read by states that are labels. (Written by rdnogen.py.) -/
import Derived.Test.YtfoncmeplofedaqDoorNoI
import Derived.Test.YtfoncmeplofedaqDoorNtm
import Derived.Test.YtfoncmeplofedaqDoorLabs
import Derived.Test.YtfoncmeplofedaqDoorNotT
namespace Go.Proofs.YtfoncmeplofedaqDoor
open Go.RowKit
set_option linter.unusedVariables false
/-- the world: the note's box at h, the cursor's behind it, the row of notes -/
structure StN (w W : World) (h : Nat) (d : ByteArray) (L : List Nt) (k : Nat) (q : Nt) (v : Value) : Prop where
  cur : Cur W (h + 1) d k
  box : W.heap[h]? = some (.cells (ntC q) 29 (0, 0))
  own : OwnNt W (h + 2) v L
  bel : Below h w W
  big : h + 2 ≤ W.heap.size
theorem stN_grow {w W W' : World} {h : Nat} {d : ByteArray} {L : List Nt} {k k' : Nat} {q : Nt} {v : Value} (s : StN w W h d L k q v) (hg : W.grownBy W' (some (h + 1))) (hc : Cur W' (h + 1) d k') : StN w W' h d L k' q v :=
  ⟨hc, (hg.block h (by have := s.big; omega) (by simp)).trans s.box, owns_grown s.own hg (fun j e e2 => by
    obtain rfl : h + 1 = j := Option.some.inj e
    have := (s.own.lt _ e2).1
    omega), s.bel.grown hg (by have := s.big; omega) (fun j e => by rw [← Option.some.inj e]; omega), by have := hg.size; have := s.big; omega⟩
theorem stN_below {w W W' : World} {h : Nat} {d : ByteArray} {L : List Nt} {k : Nat} {q : Nt} {v : Value} (s : StN w W h d L k q v) (hb : Below W.heap.size W W') : StN w W' h d L k q v :=
  ⟨cur_below s.cur hb (cur_lt s.cur), (hb.block h (by have := s.big; omega)).trans s.box, owns_below s.own hb, s.bel.trans (hb.mono (by have := s.big; omega)), by have := hb.size; have := s.big; omega⟩
theorem stN_put {w W : World} {h : Nat} {d : ByteArray} {L : List Nt} {k : Nat} {q : Nt} {v : Value} (s : StN w W h d L k q v) (p : Nt) : StN w (((W.setCell ⟨h, 0, none⟩ (.int .i64 p.1)).setCell ⟨h, 1, none⟩ (.int .i64 p.2.1)).setCell ⟨h, 2, none⟩ (.string p.2.2)) h d L k p v := by
  have ne : ∀ j : Nat, j ≠ h → (((W.setCell ⟨h, 0, none⟩ (.int .i64 p.1)).setCell ⟨h, 1, none⟩ (.int .i64 p.2.1)).setCell ⟨h, 2, none⟩ (.string p.2.2)).heap[j]? = W.heap[j]? := fun j hj => by
    rw [heap_setCell_other _ _ _ _ (by simpa using hj), heap_setCell_other _ _ _ _ (by simpa using hj), heap_setCell_other _ _ _ _ (by simpa using hj)]
  have hz : (((W.setCell ⟨h, 0, none⟩ (.int .i64 p.1)).setCell ⟨h, 1, none⟩ (.int .i64 p.2.1)).setCell ⟨h, 2, none⟩ (.string p.2.2)).heap.size = W.heap.size := by simp [World.setCell]
  refine ⟨(ne (h + 1) (by omega)).trans s.cur, box_set s.box rfl _ _ _, ?_, box_below s.bel (Nat.le_refl _) _ _ _, by rw [hz]; exact s.big⟩
  exact owns_grown (row := some h) s.own ⟨rfl, rfl, rfl, by rw [hz]; exact Nat.le_refl _, fun j _ hj => ne j (fun e => hj (by rw [e]))⟩ (fun j e e2 => by
    obtain rfl : h = j := Option.some.inj e
    have := (s.own.lt _ e2).1
    omega)
theorem stN_app {w W W' : World} {h : Nat} {d : ByteArray} {L : List Nt} {k : Nat} {q p : Nt} {v v' : Value} (s : StN w W h d L k q v) (ho : OwnNt W' (h + 2) v' (L ++ [p])) (hg : W.grownBy W' v.ownBlock) : StN w W' h d (L ++ [p]) k q v' :=
  ⟨(hg.block (h + 1) (by have := s.big; omega) (fun e => by have := (s.own.lt _ e.symm).1; omega)).trans s.cur, (hg.block h (by have := s.big; omega) (fun e => by have := (s.own.lt _ e.symm).1; omega)).trans s.box, ho, s.bel.grown hg (by have := s.big; omega) (fun j e => by have := (s.own.lt _ e).1; omega), by have := hg.size; have := s.big; omega⟩
theorem piece_max (cb : Nat) (s : ByteArray) (p : Nat) (w : World) (hc : Cur w cb s p) (hp : p ≤ s.size) (hs : s.size ≤ 1048576) :
    Calls Tryd.prog 18 #[.pointer (some ⟨cb, 0, none⟩), .int .i64 1099511627776] w (PieceEnd 1099511627776 cb s p w) := by
  have h9 := piece_any 1099511627776 cb s p w hc hp hs (Nat.le_refl _)
  rw [show ((1099511627776 : Nat) : Int) = 1099511627776 from rfl] at h9
  exact h9
def FrN0 (h : Nat) (d : ByteArray) (v : Value) (z : Int) (a : Act) : Prop := ∃ (u1 u2 u3 u6 u7 u8 u11 u12 u13 u14 u15 u16 u17 u18 u19 u20 u21 u22 u23 u24 u25 u26 u27 u28 u29 u30 u31 u32 u33 u34 u35 u36 u37 u38 u39 u40 u41 u42 u43 u44 u45 u46 u47 u48 u49 : Value), a = { tmps := #[.string d, u1, u2, u3, v, .pointer (some ⟨h, 0, none⟩), u6, u7, u8, .pointer (some ⟨h + 1, 0, none⟩), .int .i64 z, u11, u12, u13, u14, u15, u16, u17, u18, u19, u20, u21, u22, u23, u24, u25, u26, u27, u28, u29, u30, u31, u32, u33, u34, u35, u36, u37, u38, u39, u40, u41, u42, u43, u44, u45, u46, u47, u48, u49], defers := [] }
def FrN1 (h : Nat) (d : ByteArray) (v : Value) (z : Int) (x : ByteArray) (a : Act) : Prop := ∃ (u1 u2 u3 u7 u8 u11 u12 u13 u14 u15 u16 u17 u18 u19 u20 u21 u22 u23 u24 u25 u26 u27 u28 u29 u30 u31 u32 u33 u34 u35 u36 u37 u38 u39 u40 u41 u42 u43 u44 u45 u46 u47 u48 u49 : Value), a = { tmps := #[.string d, u1, u2, u3, v, .pointer (some ⟨h, 0, none⟩), .string x, u7, u8, .pointer (some ⟨h + 1, 0, none⟩), .int .i64 z, u11, u12, u13, u14, u15, u16, u17, u18, u19, u20, u21, u22, u23, u24, u25, u26, u27, u28, u29, u30, u31, u32, u33, u34, u35, u36, u37, u38, u39, u40, u41, u42, u43, u44, u45, u46, u47, u48, u49], defers := [] }
def JN0 (w : World) (d : ByteArray) (n : Nat) (a : Act) (W : World) : Prop := ∃ (L : List Nt) (k : Nat) (q : Nt) (v : Value) (z : Nat), FrN0 w.heap.size d v (z : Int) a ∧ StN w W w.heap.size d L k q v ∧ NotesTo d L k ∧ k ≤ d.size ∧ z < k ∧ n = 4 * (d.size - z)
def JN1 (w : World) (d : ByteArray) (n : Nat) (a : Act) (W : World) : Prop := ∃ (L : List Nt) (k : Nat) (q : Nt) (v : Value) (x : ByteArray) (j : Nat), FrN1 w.heap.size d v (k : Int) x a ∧ StN w W w.heap.size d L (k + j) q v ∧ NotesTo d L k ∧ rdM 1099511627776 d k = some (x, j) ∧ x.size ≤ 1048576 ∧ k + j ≤ d.size ∧ n = 4 * (d.size - k) + 2
def JN2 (w : World) (d : ByteArray) (n : Nat) (a : Act) (W : World) : Prop := ∃ (L : List Nt) (k k' : Nat) (q : Nt) (v : Value), FrN0 w.heap.size d v (k : Int) a ∧ StN w W w.heap.size d L k' q v ∧ notesT d = (L, k) ∧ n = 4 * (d.size - k)
def JN3 (w : World) (d : ByteArray) (n : Nat) (a : Act) (W : World) : Prop := ∃ (L : List Nt) (k : Nat) (v : Value) (x : ByteArray) (j : Nat), FrN1 w.heap.size d v (k : Int) x a ∧ StN w W w.heap.size d L (k + j) (bodyV x).1 v ∧ NotesTo d L k ∧ rdM 1099511627776 d k = some (x, j) ∧ (bodyV x).2 = true ∧ x.size ≤ 1048576 ∧ k + j ≤ d.size ∧ n = 4 * (d.size - k) + 1
def JN (w : World) (d : ByteArray) (n l : Nat) (a : Act) (W : World) : Prop := (l = 0 ∧ JN0 w d n a W) ∨ (l = 1 ∧ JN1 w d n a W) ∨ (l = 2 ∧ JN2 w d n a W) ∨ (l = 3 ∧ JN3 w d n a W)
def NotesEnd (d : ByteArray) (w : World) (e : Ending) (w' : World) : Prop :=
  ∃ v y, e = .returned (.tuple #[v, y]) ∧ OwnNt w' w.heap.size v (notesT d).1 ∧ Below w.heap.size w w' ∧ ((y = .nilIface ∧ (notesT d).2 = d.size) ∨ y = .iface 37 (.agg #[.int .i64 ((notesT d).2 : Int)]))
theorem notesEnd_nil {d : ByteArray} {w w' : World} {L : List Nt} {k : Nat} {q : Nt} {v : Value} (s : StN w w' w.heap.size d L k q v) (h : notesT d = (L, d.size)) : NotesEnd d w (.returned (.tuple #[v, .nilIface])) w' :=
  ⟨v, _, rfl, by rw [h]; exact owns_base s.own (by omega), s.bel, Or.inl ⟨rfl, by rw [h]⟩⟩
theorem notesEnd_bad {d : ByteArray} {w w' : World} {L : List Nt} {k k' : Nat} {q : Nt} {v : Value} (s : StN w w' w.heap.size d L k' q v) (h : notesT d = (L, k)) : NotesEnd d w (.returned (.tuple #[v, .iface 37 (.agg #[.int .i64 (k : Int)])])) w' :=
  ⟨v, _, rfl, by rw [h]; exact owns_base s.own (by omega), s.bel, Or.inr (by rw [h])⟩
set_option maxHeartbeats 8000000 in
set_option maxRecDepth 100000 in
theorem readNotes_any (d : ByteArray) (w : World) (hd : d.size ≤ 1048576) :
    Calls Tryd.prog 10 #[.string d] w (NotesEnd d w) := by
  obtain ⟨W1, hW1⟩ : ∃ W1, W1 = (w.alloc (.cells #[.int .i64 0, .int .i64 0, .string ⟨#[]⟩] 29)).alloc (.cells #[.string d, .int .i64 0] 53) := ⟨_, rfl⟩
  have hst : StN w W1 w.heap.size d [] 0 nt0 (.slice none 0 0) := by
    have hs1 : W1.heap.size = w.heap.size + 1 + 1 := by rw [hW1, World.size_alloc, World.size_alloc]
    refine ⟨?_, ?_, ownG_nil _ _ _, ?_, by omega⟩
    · show W1.heap[w.heap.size + 1]? = _
      rw [hW1]
      have e := heap_alloc_new (w.alloc (.cells #[.int .i64 0, .int .i64 0, .string ⟨#[]⟩] 29)) (.cells #[.string d, .int .i64 0] 53)
      rw [World.size_alloc] at e
      exact e
    · rw [hW1, Below.heap_alloc _ _ _ (by rw [World.size_alloc]; omega)]
      exact heap_alloc_new w _
    · rw [hW1]
      exact ((Below.refl w.heap.size w).alloc (Nat.le_refl _) _).alloc (by rw [World.size_alloc]; omega) _
  have HST := Lib.hid hst
  have hpc := piece_max (w.heap.size + 1) d 0 W1 hst.cur (Nat.zero_le _) hd
  have HW := Lib.hid hW1
  rw [hW1] at hpc
  have HD := Lib.hid hd
  have HT0 := Lib.hid (notesTo_start d)
  clear hst hW1
  go_enter Tryd.func10, Tryd.ntmps10
  go_wp2
  refine wp_scope_labels (JN w d) ?_ ?_
  · go_wp2
    go_step3
    rw [← HW.out]
    rw [← HW.out] at hpc
    have HT := Lib.hid HT0.out
    have HK : Hid (0 ≤ d.size) := Nat.zero_le _
    have c0 := cur_cell0 HST.out.cur
    have c1 := cur_cell1 HST.out.cur
    by_cases hz : 0 = d.size
    · have hzb : ((0 : Int) == (d.size : Int)) = true := by simp; omega
      have HE : Hid (notesT d = ([], d.size)) := by
        have h9 := notesTo_end HT.out (by have := step_end (d := d); rw [← hz] at this ⊢; exact this)
        show _ = _
        rw [h9, hz]
      clear hz hpc
      go_wp2
      simp only [leapTo_ret]
      go_ret2
      exact notesEnd_nil HST.out HE.out
    · have hzb : ((0 : Int) == (d.size : Int)) = false := by simp; omega
      have HZ := Lib.hid hz
      clear hz
      go_wp2_with fail
      refine hpc.mono ?_
      rintro e w2 hp
      rcases hp with ⟨hr, rfl, hb2⟩ | ⟨x, j, hr, hj, hxs, hxj, rfl, hcur, hg⟩
      · have HN : Hid (notesT d = ([], 0)) := notesTo_end HT.out (step_none HK.out hr)
        have HS2 := Lib.hid (stN_below HST.out hb2)
        clear hr hb2 hpc c0 c1
        go_wp2
        go_step3
        exact ⟨_, Or.inr (Or.inr (Or.inl ⟨rfl, _, _, _, _, _, ⟨_, _, _, _, _, _, _, _, _, _, _, _, _, _, _, _, _, _, _, _, _, _, _, _, _, _, _, _, _, _, _, _, _, _, _, _, _, _, _, _, _, _, _, _, _, rfl⟩, HS2.out, HN.out, rfl⟩))⟩
      · have HS2 := Lib.hid (stN_grow HST.out hg hcur)
        have HR := Lib.hid hr
        have HJ : Hid (x.size ≤ 1048576 ∧ 0 + j ≤ d.size) := ⟨by have := HD.out; omega, hj⟩
        clear hr hg hcur hj hxs hxj hpc c0 c1
        go_wp2
        go_step3
        exact ⟨_, Or.inr (Or.inl ⟨rfl, _, _, _, _, _, _, ⟨_, _, _, _, _, _, _, _, _, _, _, _, _, _, _, _, _, _, _, _, _, _, _, _, _, _, _, _, _, _, _, _, _, _, _, _, _, _, _, _, _, _, _, _, rfl⟩, HS2.out, HT.out, HR.out, HJ.out.1, HJ.out.2, rfl⟩)⟩
  · clear hpc
    rintro n l a W (⟨rfl, hj⟩ | ⟨rfl, hj⟩ | ⟨rfl, hj⟩ | ⟨rfl, hj⟩)
    · refine ⟨_, rfl, ?_⟩
      obtain ⟨L, k, q, v, z, ⟨u1, u2, u3, u6, u7, u8, u11, u12, u13, u14, u15, u16, u17, u18, u19, u20, u21, u22, u23, u24, u25, u26, u27, u28, u29, u30, u31, u32, u33, u34, u35, u36, u37, u38, u39, u40, u41, u42, u43, u44, u45, u46, u47, u48, u49, rfl⟩, hst, hnt, hk, hzk, rfl⟩ := hj
      have hpc := piece_max (w.heap.size + 1) d k W hst.cur hk HD.out
      have HST := Lib.hid hst
      have HT := Lib.hid hnt
      have HK := Lib.hid hk
      have HZK := Lib.hid hzk
      clear hst hnt hk hzk
      obtain ⟨ao, cap, rfl⟩ := ownG_shape HST.out.own
      have c0 := cur_cell0 HST.out.cur
      have c1 := cur_cell1 HST.out.cur
      by_cases hz : k = d.size
      · have hzb : (((k : Int) : Int) == (d.size : Int)) = true := by simp; omega
        have HE : Hid (notesT d = (L, d.size)) := by
          have h9 := notesTo_end HT.out (by have := step_end (d := d); rw [← hz] at this ⊢; exact this)
          show _ = _
          rw [h9, hz]
        clear hz hpc
        go_wp2
        simp only [leapTo_ret]
        go_ret2
        exact notesEnd_nil HST.out HE.out
      · have hzb : (((k : Int) : Int) == (d.size : Int)) = false := by simp; omega
        have HZ := Lib.hid hz
        clear hz
        go_wp2_with fail
        refine hpc.mono ?_
        rintro e w2 hp
        rcases hp with ⟨hr, rfl, hb2⟩ | ⟨x, j, hr, hj, hxs, hxj, rfl, hcur, hg⟩
        · have HN : Hid (notesT d = (L, k)) := notesTo_end HT.out (step_none HK.out hr)
          have HS2 := Lib.hid (stN_below HST.out hb2)
          clear hr hb2 hpc c0 c1
          go_wp2
          go_step3
          exact ⟨_, by have := HZK.out; have := HK.out; omega, Or.inr (Or.inr (Or.inl ⟨rfl, _, _, _, _, _, ⟨_, _, _, _, _, _, _, _, _, _, _, _, _, _, _, _, _, _, _, _, _, _, _, _, _, _, _, _, _, _, _, _, _, _, _, _, _, _, _, _, _, _, _, _, _, rfl⟩, HS2.out, HN.out, rfl⟩))⟩
        · have HS2 := Lib.hid (stN_grow HST.out hg hcur)
          have HR := Lib.hid hr
          have HJ : Hid (x.size ≤ 1048576 ∧ k + j ≤ d.size) := ⟨by have := HD.out; omega, hj⟩
          clear hr hg hcur hj hxs hxj hpc c0 c1
          go_wp2
          go_step3
          exact ⟨_, by have := HZK.out; have := HK.out; have := HJ.out.2; omega, Or.inr (Or.inl ⟨rfl, _, _, _, _, _, _, ⟨_, _, _, _, _, _, _, _, _, _, _, _, _, _, _, _, _, _, _, _, _, _, _, _, _, _, _, _, _, _, _, _, _, _, _, _, _, _, _, _, _, _, _, _, rfl⟩, HS2.out, HT.out, HR.out, HJ.out.1, HJ.out.2, rfl⟩)⟩
    · refine ⟨_, rfl, ?_⟩
      obtain ⟨L, k, q, v, x, j, ⟨u1, u2, u3, u7, u8, u11, u12, u13, u14, u15, u16, u17, u18, u19, u20, u21, u22, u23, u24, u25, u26, u27, u28, u29, u30, u31, u32, u33, u34, u35, u36, u37, u38, u39, u40, u41, u42, u43, u44, u45, u46, u47, u48, u49, rfl⟩, hst, hnt, hr, hxs, hj, rfl⟩ := hj
      have hno := noteOf_any x W hxs
      have HST := Lib.hid hst
      have HT := Lib.hid hnt
      have HR := Lib.hid hr
      have HJ : Hid (x.size ≤ 1048576 ∧ k + j ≤ d.size) := ⟨hxs, hj⟩
      clear hst hnt hr hxs hj
      obtain ⟨ao, cap, rfl⟩ := ownG_shape HST.out.own
      cases hb : (bodyV x).2 with
      | false =>
        have HN : Hid (notesT d = (L, k)) := notesTo_end HT.out (step_body (by have := HJ.out.2; omega) HR.out hb)
        rw [hb] at hno
        clear hb
        go_wp2_with fail
        refine hno.mono ?_
        rintro e w2 ⟨rfl, hb2⟩
        have HS2 := Lib.hid (stN_below HST.out hb2)
        obtain ⟨y0, y1, y2, f0, f1, f2⟩ := box_cells HS2.out.box
        have HS3 := Lib.hid (stN_put HS2.out (bodyV x).1)
        clear hno hb2
        go_wp2
        go_step3
        exact ⟨_, by omega, Or.inr (Or.inr (Or.inl ⟨rfl, _, _, _, _, _, ⟨_, _, _, _, _, _, _, _, _, _, _, _, _, _, _, _, _, _, _, _, _, _, _, _, _, _, _, _, _, _, _, _, _, _, _, _, _, _, _, _, _, _, _, _, _, rfl⟩, HS3.out, HN.out, rfl⟩))⟩
      | true =>
        have HB := Lib.hid hb
        rw [hb] at hno
        clear hb
        go_wp2_with fail
        refine hno.mono ?_
        rintro e w2 ⟨rfl, hb2⟩
        have HS2 := Lib.hid (stN_below HST.out hb2)
        obtain ⟨y0, y1, y2, f0, f1, f2⟩ := box_cells HS2.out.box
        have HS3 := Lib.hid (stN_put HS2.out (bodyV x).1)
        clear hno hb2
        go_wp2
        go_step3
        exact ⟨_, by omega, Or.inr (Or.inr (Or.inr ⟨rfl, _, _, _, _, _, ⟨_, _, _, _, _, _, _, _, _, _, _, _, _, _, _, _, _, _, _, _, _, _, _, _, _, _, _, _, _, _, _, _, _, _, _, _, _, _, _, _, _, _, _, _, rfl⟩, HS3.out, HT.out, HR.out, HB.out, HJ.out.1, HJ.out.2, rfl⟩))⟩
    · refine ⟨_, rfl, ?_⟩
      obtain ⟨L, k, k9, q, v, ⟨u1, u2, u3, u6, u7, u8, u11, u12, u13, u14, u15, u16, u17, u18, u19, u20, u21, u22, u23, u24, u25, u26, u27, u28, u29, u30, u31, u32, u33, u34, u35, u36, u37, u38, u39, u40, u41, u42, u43, u44, u45, u46, u47, u48, u49, rfl⟩, hst, hnt, rfl⟩ := hj
      have HST := Lib.hid hst
      have HN := Lib.hid hnt
      clear hst hnt
      obtain ⟨ao, cap, rfl⟩ := ownG_shape HST.out.own
      go_wp2
      simp only [leapTo_ret]
      go_ret2
      exact notesEnd_bad HST.out HN.out
    · refine ⟨_, rfl, ?_⟩
      obtain ⟨L, k, v, x, j, ⟨u1, u2, u3, u7, u8, u11, u12, u13, u14, u15, u16, u17, u18, u19, u20, u21, u22, u23, u24, u25, u26, u27, u28, u29, u30, u31, u32, u33, u34, u35, u36, u37, u38, u39, u40, u41, u42, u43, u44, u45, u46, u47, u48, u49, rfl⟩, hst, hnt, hr, hbv, hxs, hj, rfl⟩ := hj
      have hno := number_any (w.heap.size + 1) d (k + j) W hst.cur hj (by omega)
      have hdg := Lib.hid (fun W => implDigest_any x W (by omega))
      have HST := Lib.hid hst
      have HT := Lib.hid hnt
      have HR := Lib.hid hr
      have HJ : Hid (x.size ≤ 1048576 ∧ k + j ≤ d.size) := ⟨hxs, hj⟩
      have HB := Lib.hid hbv
      clear hst hnt hr hxs hj hbv
      obtain ⟨ao, cap, rfl⟩ := ownG_shape HST.out.own
      go_wp2_with fail
      refine hno.mono ?_
      rintro e w2 hn1
      rcases number_cases hn1 with ⟨hr, rfl, hb2⟩ | ⟨m, i, hr, rfl, hcur2, hg2⟩
      · have HN : Hid (notesT d = (L, k)) := notesTo_end HT.out (step_sum (by have := HJ.out.2; omega) HR.out (fun m i h => by rw [hr] at h; cases h))
        have HS2 := Lib.hid (stN_below HST.out hb2)
        clear hn1 hr hb2 hno
        go_wp2
        go_step3
        go_wp2
        simp only [leapTo_ret]
        go_ret2
        exact notesEnd_bad HS2.out HN.out
      · have HS2 := Lib.hid (stN_grow HST.out hg2 hcur2)
        have HRN := Lib.hid hr
        clear hn1 hr hcur2 hg2 hno
        have hdg2 := hdg.out w2
        by_cases hm : (m : Int) = digest x
        · have hhit := step_hit (by have := HJ.out.2; omega) HR.out HB.out HRN.out hm
          have HT2 := Lib.hid (notesTo_hit HT.out (by have := HJ.out.2; omega) hhit)
          have HLE := Lib.hid (hit_le hhit (by have := HJ.out.2; omega))
          have hln : L.length + ([(bodyV x).1] : List Nt).length ≤ 16777216 := by
            have h9 := notesTo_len HT.out
            have := HD.out
            simp only [List.length_singleton]
            omega
          have hmb : ((m : Int) == digest x) = true := by simp [hm]
          clear hm hhit
          generalize digest x = dg at hdg2 hmb
          obtain ⟨y0, y1, y2, f0, f1, f2⟩ := box_cells HS2.out.box
          have hoa : OwnNt (w2.alloc (.cells #[.int .i64 (bodyV x).1.1, .int .i64 (bodyV x).1.2.1, .string (bodyV x).1.2.2] 29)) (w.heap.size + 2) (.slice ao L.length cap) L := HS2.out.own.alloc _
          have hrq : RdG ntf 3 (w2.alloc (.cells #[.int .i64 (bodyV x).1.1, .int .i64 (bodyV x).1.2.1, .string (bodyV x).1.2.2] 29)) (.slice (some ⟨w2.heap.size, 0, none⟩) 1 1) [(bodyV x).1] := rdG_one ntW w2 (bodyV x).1 29
          have hsA : w.heap.size + 2 ≤ (w2.alloc (.cells #[.int .i64 (bodyV x).1.1, .int .i64 (bodyV x).1.2.1, .string (bodyV x).1.2.2] 29)).heap.size := by rw [World.size_alloc]; have := HS2.out.big; omega
          have HSA := Lib.hid (stN_below HS2.out ((Below.refl w2.heap.size w2).alloc (Nat.le_refl _) (.cells #[.int .i64 (bodyV x).1.1, .int .i64 (bodyV x).1.2.1, .string (bodyV x).1.2.2] 29)))
          go_wp2_with fail
          refine hdg2.mono ?_
          rintro e w3 ⟨rfl, rfl⟩
          clear hdg2 hdg HRN HB HR
          go_wp2_with (at_builtin; refine own_stepG (ntY.ty ntW) ntW rfl _ _ rfl (w.heap.size + 2) _ (.slice (some ⟨w3.heap.size, 0, none⟩) 1 1) L [(bodyV x).1] rfl rfl hoa hrq hln hsA ?_)
          intro v5 w5 ho5 hg5 hi5
          have HS5 : Hid (StN w w5 w.heap.size d (L ++ [(bodyV x).1]) (k + (j + i)) (bodyV x).1 v5) := by
            have h9 := stN_app HSA.out ho5 hg5
            rw [Nat.add_assoc] at h9
            exact h9
          have HLE2 : Hid (k + (j + i) ≤ d.size ∧ k < k + (j + i)) := ⟨HLE.out.2, by have := HLE.out.1; omega⟩
          clear ho5 hg5 hi5 hoa hrq hsA
          go_wp2
          go_step3
          exact ⟨_, by omega, Or.inl ⟨rfl, _, _, _, _, _, ⟨_, _, _, _, _, _, _, _, _, _, _, _, _, _, _, _, _, _, _, _, _, _, _, _, _, _, _, _, _, _, _, _, _, _, _, _, _, _, _, _, _, _, _, _, _, rfl⟩, HS5.out, HT2.out, HLE2.out.1, HLE2.out.2, rfl⟩⟩
        · have HN : Hid (notesT d = (L, k)) := notesTo_end HT.out (step_sum (by have := HJ.out.2; omega) HR.out (fun m9 i9 h => by
            rw [HRN.out] at h
            simp only [Option.some.injEq, Prod.mk.injEq] at h
            rw [← h.1]; exact hm))
          have hmb : ((m : Int) == digest x) = false := by simp [hm]
          clear hm
          generalize digest x = dg at hdg2 hmb
          go_wp2_with fail
          refine hdg2.mono ?_
          rintro e w3 ⟨rfl, rfl⟩
          clear hdg2
          go_wp2
          go_step3
          go_wp2
          simp only [leapTo_ret]
          go_ret2
          exact notesEnd_bad HS2.out HN.out
end Go.Proofs.YtfoncmeplofedaqDoor
