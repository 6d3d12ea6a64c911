/- DRAWS of stage 13: l13Draw: a right shelf, of some steps. -/
import Derived.Test.YtfoncmeplofedafShP
import Derived.Test.YtfoncmeplofedafShZ
import Derived.Test.YtfoncmeplofedafShR
import Derived.Test.YtfoncmeplofedafDrawsB
namespace Go.Proofs.Ytfoncmeplofedaf
open Go.RowKit
set_option linter.unusedVariables false
theorem ShB.grow {B0 B cb : Nat} {r : Int} {v : Value} {l : List It} {w w' : World} (h : ShB B0 B r v l w) (hg : w.grownBy w' (some cb)) (hc : cb < B0) : ShB B0 B r v l w' :=
  ⟨(hg.block B h.lt (fun e => by have := h.base; have := Option.some.inj e; omega)).trans h.box, owns_far h.own hg hc, h.base, h.ne⟩
theorem grown_none {w w' : World} {cb : Nat} (hb : Below w.heap.size w w') : w.grownBy w' (some cb) := ⟨hb.os, hb.tape, hb.output, hb.size, fun k hk _ => hb.block k hk⟩
theorem gr_lower {B cb : Nat} {w w1 w2 : World} (hg : w.grownBy w1 (some cb)) (hb : Below B w1 w2) (hB : w.heap.size ≤ B) : w.grownBy w2 (some cb) :=
  ⟨hb.os.trans hg.os, hb.tape.trans hg.tape, hb.output.trans hg.output, Nat.le_trans hg.size hb.size, fun k hk hne => (hb.block k (by omega)).trans (hg.block k hk hne)⟩
set_option maxHeartbeats 8000000 in
set_option maxRecDepth 100000 in
theorem l13Draw_any (cb : Nat) (v : Value) (bs : List Int) (w : World) (hst : St w cb v bs) (hl : bs.length ≤ 4096) (hz : ∀ j, 0 ≤ bs.getD j 0 ∧ bs.getD j 0 ≤ 255) :
    Calls Try.prog 49 #[.pointer (some ⟨cb, 0, none⟩)] w fun e w' => ∃ (r : Int) (u : Value) (l : List It), e = .returned (.agg #[.int .i64 r, u]) ∧ DrP 0 r l ∧ OwnI w' w.heap.size u l ∧ St w' cb v bs ∧ w.grownBy w' (some cb) := by
  have hcb := st_lt hst
  have HZ := Lib.hid hz
  obtain ⟨W2, hW2⟩ : ∃ W2, W2 = (w.alloc (.cells #[.int .i64 0, .slice none 0 0] 33)).alloc (.cells #[.int .i64 0, .slice none 0 0] 33) := ⟨_, rfl⟩
  have hb2 : Below w.heap.size w W2 := by
    rw [hW2]; exact ((Below.refl w.heap.size w).alloc (Nat.le_refl _) _).alloc (by rw [alloc_sizeI]; omega) _
  have hs2 : W2.heap.size = w.heap.size + 1 + 1 := by rw [hW2, alloc_sizeI, alloc_sizeI]
  have hA : W2.heap[w.heap.size]? = some (.cells #[.int .i64 0, .slice none 0 0] 33 (0, 0)) := by
    rw [hW2, Below.heap_alloc _ _ _ (by rw [alloc_sizeI]; omega)]; exact heap_alloc_new w _
  have hZ : W2.heap[w.heap.size + 1]? = some (.cells #[.int .i64 0, .slice none 0 0] 33 (0, 0)) := by
    rw [hW2]
    have e := heap_alloc_new (w.alloc (.cells #[.int .i64 0, .slice none 0 0] 33)) (.cells #[.int .i64 0, .slice none 0 0] 33)
    rw [alloc_sizeI] at e
    exact e
  have hsh0 : ShB (w.heap.size + 1) (w.heap.size + 1) 0 (.slice none 0 0) [] W2 := ⟨hZ, ownG_nil _ _ _, Nat.le_refl _, fun e => by cases e⟩
  have hst0 : St W2 cb v bs := st_below hst (hb2.mono (by omega))
  have hg0 : w.grownBy W2 (some cb) := grown_none hb2
  have HFIN : Hid (∀ (w8 : World) (k0 k1 : Value) W3, W3 = (w8.setCell ⟨w.heap.size, 0, none⟩ k0).setCell ⟨w.heap.size, 1, none⟩ k1 → w8.heap[w.heap.size]? = some (.cells #[.int .i64 0, .slice none 0 0] 33 (0, 0)) → w.grownBy w8 (some cb) → St w8 cb v bs → (∀ u L, OwnI w8 (w.heap.size + 1) u L → OwnI W3 w.heap.size u L) ∧ w.grownBy W3 (some cb) ∧ St W3 cb v bs ∧ W3.heap[w.heap.size]? = some (.cells #[k0, k1] 33 (0, 0))) := fun w8 k0 k1 W3 hW3 hx hg hs => by
    subst hW3
    have hb : Below w.heap.size w8 ((w8.setCell ⟨w.heap.size, 0, none⟩ k0).setCell ⟨w.heap.size, 1, none⟩ k1) := ((Below.refl _ _).setCell (p := ⟨w.heap.size, 0, none⟩) (Nat.le_refl _) k0).setCell (p := ⟨w.heap.size, 1, none⟩) (Nat.le_refl _) k1
    exact ⟨fun u L ho => own_lower (own_setCell (own_setCell ho (p := ⟨w.heap.size, 0, none⟩) (by show w.heap.size < _; omega) k0) (p := ⟨w.heap.size, 1, none⟩) (by show w.heap.size < _; omega) k1) (by omega), gr_lower hg hb (Nat.le_refl _), st_below hs (hb.mono (by omega)), by simp [World.setCell, Array.getElem?_modify, hx]⟩
  rw [hW2] at hst0
  have HW := Lib.hid hW2
  have HG0 := Lib.hid hg0
  have HSH0 := Lib.hid hsh0
  have HA := Lib.hid hA
  clear hW2 hb2 hs2 hA hZ hsh0 hst hz hg0
  go_enter Try.func49, Try.ntmps49
  go_wp2_with fail
  refine (below_any cb v bs 12 _ hst0 hl HZ.out (by omega)).mono ?_
  rintro e w2 ⟨n0, rfl, hn0, hn1, _, hst2, hg2⟩
  have hn2 := hn1 (by omega)
  rw [← HW.out] at hg2
  obtain ⟨n, rfl⟩ : ∃ n : Nat, n0 = (n : Int) := ⟨n0.toNat, by omega⟩
  have hsz2 : w.heap.size + 1 + 1 ≤ w2.heap.size := by have := hg2.size; have := HSH0.out.lt; omega
  have hsh2 := HSH0.out.grow hg2 (by omega)
  have hgr2 := grown_trans HG0.out hg2
  have hx2 := (hg2.block w.heap.size (by have := HSH0.out.lt; omega) (fun e => by have := Option.some.inj e; omega)).trans HA.out
  have hd2 : Hid (DrP n 0 []) := drP_start (by omega)
  clear hst0 hg2 HG0 HSH0 HA HW hn1 hn0
  go_wp2
  go_loopw [4] (fun q wr => ∃ (m : Nat) (r : Int) (u : Value) (l : List It), q = .int .i64 (m : Int) ∧ m ≤ 11 ∧ Hid (DrP m r l) ∧ ShB (w.heap.size + 1) (w.heap.size + 1) r u l wr ∧ St wr cb v bs ∧ w.grownBy wr (some cb) ∧ wr.heap[w.heap.size]? = some (.cells #[.int .i64 0, .slice none 0 0] 33 (0, 0))) (fun q _ => (intOf q).toNat)
  case atStart => exact ⟨n, 0, _, [], rfl, by omega, hd2, hsh2, hst2, hgr2, hx2⟩
  case round =>
    rename World => wr
    obtain ⟨m, r, u, l, rfl, hm, hd, hsh, hst3, hgr, hx⟩ := hrel
    clear hst2 hsh2 hgr2 hx2 hd2 hn2 hsz2
    by_cases hm0 : m = 0
    · have hmI : ¬ (0 : Int) < (m : Int) := by omega
      have k0 := hsh.c0
      have k1 := hsh.c1
      obtain ⟨uo, uc, hvu⟩ := ownG_shape hsh.own
      have HO := Lib.hid hsh.own
      have x0 := cell_of_row wr w.heap.size 0 _ _ (0, 0) hx
      have x1 := cell_of_row wr w.heap.size 1 _ _ (0, 0) hx
      have z0 := Lib.frozen_of_heap hx 0
      have z1 := Lib.frozen_of_heap hx 1
      simp only [List.getElem?_toArray, List.getElem?_cons_zero, List.getElem?_cons_succ] at x0 x1
      have HF := Lib.hid (fun k0 k1 W3 h => HFIN.out wr k0 k1 W3 h hx hgr hst3)
      have HD : Hid (DrP 0 r l) := by rw [← hm0]; exact hd.out
      subst hvu
      clear hsh hst3 hgr hx hd HFIN hm0
      go_wp2
      refine bodyPost_ret (results_cell_row (by rfl) _ _ w.heap.size 33 _ (0, 0) _ rfl (HF.out _ _ _ rfl).2.2.2 Try.underlying33 rfl shelf_size) rfl ?_
      exact ⟨r, _, rfl, l, HD.out, (HF.out _ _ _ rfl).1 _ _ HO.out, (HF.out _ _ _ rfl).2.2.1, (HF.out _ _ _ rfl).2.1⟩
    obtain ⟨j, rfl⟩ : ∃ j, m = j + 1 := ⟨m - 1, by omega⟩
    have hmI : (0 : Int) < ((j + 1 : Nat) : Int) := by omega
    have hl16 : l.length ≤ 11 := by have := hd.out.2.2; omega
    have HSZ : Hid (w.heap.size + 1 ≤ wr.heap.size) := Nat.le_of_lt hsh.lt
    go_wp2_with fail
    refine (below_any cb v bs 6 _ hst3 hl HZ.out (by omega)).mono ?_
    rintro e w4 ⟨c, rfl, hc0, hc1, _, hst4, hg4⟩
    have hc2 := hc1 (by omega)
    have hsh4 := hsh.grow hg4 (by omega)
    have hgr4 := grown_trans hgr hg4
    have hx4 := (hg4.block w.heap.size HSZ.out (fun e => by have := Option.some.inj e; omega)).trans hx
    have hsz4 := Nat.le_trans HSZ.out hg4.size
    clear hst3 hsh hgr hx hg4 hc1
    by_cases h0 : c = 0
    · subst h0
      have hcall := l13Synced_any _ _ _ _ _ _ hsh4 (by omega)
      clear hsh4
      go_wp2_with fail
      refine hcall.mono ?_
      rintro e w9 ⟨rfl, hs9, hb9⟩
      have hst9 := st_below hst4 (hb9.mono (by omega))
      have hg9 := gr_lower hgr4 hb9 (by omega)
      have hx9 := (hb9.block w.heap.size (by omega)).trans hx4
      have hd9 : Hid (DrP j r (syncL l)) := drP_sync hd.out
      clear hst4 hgr4 hx4 hb9 hcall hd
      go_wp2
      go_roundw
      case rel => exact ⟨j, r, _, _, by first | (simp; done) | go_num, by omega, hd9, hs9, hst9, hg9, hx9⟩
      case measure => simp [intOf] <;> omega
    by_cases h1 : c = 1
    · subst h1
      go_wp2_with fail
      refine (once_any cb v bs 3 _ hst4 hl HZ.out (by omega)).mono ?_
      rintro e w5 ⟨b1, rfl, hst5, hg5⟩
      have hsh5 := hsh4.grow hg5 (by omega)
      have hgr5 := grown_trans hgr4 hg5
      have hx5 := (hg5.block w.heap.size hsz4 (fun e => by have := Option.some.inj e; omega)).trans hx4
      clear hst4 hsh4 hgr4 hx4 hg5
      cases b1 with
      | false =>
        have hd9 : Hid (DrP j r l) := drP_less hd.out
        clear hd
        go_wp2
        go_roundw
        case rel => exact ⟨j, r, _, _, by first | (simp; done) | go_num, by omega, hd9, hsh5, hst5, hgr5, hx5⟩
        case measure => simp [intOf] <;> omega
      | true =>
        have hcall := l13Crashed_any _ _ _ _ _ _ hsh5 (by omega)
        clear hsh5
        go_wp2_with fail
        refine hcall.mono ?_
        rintro e w9 ⟨rfl, ⟨u9, hs9⟩, hb9⟩
        have hst9 := st_below hst5 (hb9.mono (by omega))
        have hg9 := gr_lower hgr5 hb9 (by omega)
        have hx9 := (hb9.block w.heap.size (by omega)).trans hx5
        have hd9 : Hid (DrP j r (crashL l)) := drP_crash hd.out
        clear hst5 hgr5 hx5 hb9 hcall hd
        go_wp2
        go_roundw
        case rel => exact ⟨j, r, _, _, by first | (simp; done) | go_num, by omega, hd9, hs9, hst9, hg9, hx9⟩
        case measure => simp [intOf] <;> omega
    have h00 : (c == 0) = false := by simpa using h0
    have h11 : (c == 1) = false := by simpa using h1
    by_cases h2 : c = 2
    · subst h2
      have HE : Hid (∀ W, w4.grownBy W (some cb) → ShB (w.heap.size + 1) (w.heap.size + 1) r u l W) := fun W hg => hsh4.grow hg (by omega)
      have HK : Hid (∀ W, w4.grownBy W (some cb) → W.cell? ⟨w.heap.size + 1, 0, none⟩ = some (.int .i64 r) ∧ W.cell? ⟨w.heap.size + 1, 1, none⟩ = some u) := fun W hg => ⟨(HE.out W hg).c0, (HE.out W hg).c1⟩
      have HBL : Hid (∀ W, w4.grownBy W (some cb) → Calls Try.prog 31 #[.agg #[.int .i64 r, u]] W fun e w' => ∃ vb, e = .returned vb ∧ w'.ownsRow W.heap.size 41 2 vb l.length (blC (itBs l)) ∧ w4.grownBy w' (some cb) ∧ Below W.heap.size W w') := fun W hg => by
        refine (l13Blobs_any r u l W (rdG_owns itW (HE.out W hg).own) (by omega)).mono ?_
        rintro e w' ⟨vb, rfl, h1, h2⟩
        exact ⟨vb, rfl, h1, gr_lower hg h2 hg.size, h2⟩
      have HDG : Hid (∀ W vb B9, w4.grownBy W (some cb) → St W cb v bs → W.ownsRow B9 41 2 vb l.length (blC (itBs l)) → cb < B9 → Calls Try.prog 30 #[.pointer (some ⟨cb, 0, none⟩), vb] W fun e w' => ∃ (v' : Value) (ds : List Int), e = .returned v' ∧ ds.length ≤ 5 ∧ Rd w' v' (cellsInt64S ds) ∧ w4.grownBy w' (some cb) ∧ St w' cb v bs) := fun W vb B9 hg hs ho hB => by
        have hln : (itBs l).length = l.length := List.length_map _
        refine (l7DrawDigests_any cb v bs vb (itBs l) B9 W hs hl HZ.out (by rw [hln]; exact ho) hB (by omega) (fun p hp => ?_)).mono ?_
        · obtain ⟨h1, h2, h3⟩ := storeB_iff.1 (shelfB_iff.1 hd.out.1).2.1
          have e9 := (h2 p hp).2
          have := digest_in p.2
          rw [e9]
          exact ⟨by omega, by omega⟩
        · rintro e w' ⟨v', ds, rfl, h5, _, h6, h7, h8⟩
          exact ⟨v', ds, rfl, h5, rd_owns h6, grown_trans hg h8, h7⟩
      have HSW : Hid (∀ W round vm ms, w4.grownBy W (some cb) → Rd W vm (cellsInt64S ms) → ms.length ≤ 5 → Calls Try.prog 36 #[.pointer (some ⟨w.heap.size + 1, 0, none⟩), .int .i64 round, vm] W fun e w' => (∃ z, e = .returned z) ∧ (∃ v', ShB (w.heap.size + 1) (w.heap.size + 1) (if round < r ∨ 100000 < round then r else round) v' (if round < r ∨ 100000 < round then l else sweptL round ms l) w') ∧ Below (w.heap.size + 1) W w') := fun W round vm ms hg hr hm => by
        refine (l13Swept_any _ _ r u l round vm ms W (HE.out W hg) hr (by omega) (by omega)).mono ?_
        rintro e w' ⟨rfl, h1, h2⟩
        exact ⟨⟨_, rfl⟩, h1, h2⟩
      have HBE : Hid (∀ W, w4.grownBy W (some cb) → St W cb v bs → Calls Try.prog 37 #[.pointer (some ⟨cb, 0, none⟩), .int .i64 6] W fun e w' => ∃ q : Int, e = .returned (.int .i64 q) ∧ St w' cb v bs ∧ w4.grownBy w' (some cb)) := fun W hg hs => by
        refine (below_any cb v bs 6 W hs hl HZ.out (by omega)).mono ?_
        rintro e w' ⟨q, rfl, _, _, _, h1, h2⟩
        exact ⟨q, rfl, h1, grown_trans hg h2⟩
      have hgd : w4.grownBy w4.drew (some cb) := grown_drew (World.grownBy.refl _ _)
      have hsd : St w4.drew cb v bs := hst4
      have k0 := hsh4.c0
      have k1 := hsh4.c1
      obtain ⟨uo, uc, hvu⟩ := ownG_shape hsh4.own
      subst hvu
      clear hsh4
      go_wp2_with fail
      have hwd : w4.drew.grownBy w4.drew none := World.grownBy.refl _ _
      go_region_with (first
        | (go_at_call 36; refine (HSW.out _ _ _ ds hg7 hr7 hd7).mono ?_; rintro e w9 ⟨⟨z9, rfl⟩, ⟨u9, hs9⟩, hb9⟩)
        | (go_at_call 30; refine (HDG.out _ _ _ hg6 hst6 hob6 hbb6).mono ?_; rintro e w7 ⟨vm7, ds, rfl, hd7, hr7, hg7, hst7⟩)
        | (go_at_call 31; refine (HBL.out _ hg5).mono ?_; rintro e w6 ⟨vb6, rfl, hob6, hg6, hb6⟩; have hst6 := st_below hst5 (hb6.mono (st_lt hst5)); have hbb6 := st_lt hst5)
        | (go_at_call 37; refine (HBE.out _ hgd hsd).mono ?_; rintro e w5 ⟨q5, rfl, hst5, hg5⟩; obtain ⟨k05, k15⟩ := HK.out _ hg5))
      all_goals
        have hst9 := st_below hst7 (hb9.mono (by omega))
        have hg9 := gr_lower (grown_trans hgr4 hg7) hb9 (by omega)
        have hx9 := (hb9.block w.heap.size (by omega)).trans ((hg7.block w.heap.size hsz4 (fun e => by have := Option.some.inj e; omega)).trans hx4)
        have hd9 : Hid (DrP j (if q5 < r ∨ 100000 < q5 then r else q5) (if q5 < r ∨ 100000 < q5 then l else sweptL q5 ds l)) := drP_swept hd.out
        clear hst5 hst6 hst7 hg5 hg6 hg7 hb6 hb9 hob6 hbb6 hr7 hgr4 hx4 hd HE HK HBL HDG HSW HBE
        go_wp2
        refine ⟨⟨j, _, _, _, rfl, by omega, hd9, hs9, hst9, hg9, hx9⟩, ?_⟩
        simp [intOf] <;> omega
    have h22 : (c == 2) = false := by simpa using h2
    go_wp2_with fail
    refine (drawText2X_any cb v bs _ hst4 hl HZ.out).mono ?_
    rintro e w5 ⟨tx, rfl, ⟨htx, _⟩, hst5, hg5⟩
    have hsh5 := hsh4.grow hg5 (by omega)
    have hgr5 := grown_trans hgr4 hg5
    have hx5 := (hg5.block w.heap.size hsz4 (fun e => by have := Option.some.inj e; omega)).trans hx4
    have hsz5 := Nat.le_trans hsz4 hg5.size
    clear hst4 hsh4 hgr4 hx4 hg5
    go_wp2_with fail
    refine (below_any cb v bs 5 _ hst5 hl HZ.out (by omega)).mono ?_
    rintro e w6 ⟨q, rfl, hq0, hq1, _, hst6, hg6⟩
    have hq2 := hq1 (by omega)
    have hsh6 := hsh5.grow hg6 (by omega)
    have hgr6 := grown_trans hgr5 hg6
    have hx6 := (hg6.block w.heap.size hsz5 (fun e => by have := Option.some.inj e; omega)).trans hx5
    have hsz6 := Nat.le_trans hsz5 hg6.size
    have hcall := l13Laid_any _ _ _ _ _ tx (1 + q) _ hsh6 (shelfB_iff.1 hd.out.1).2.1 (by omega)
    have hd9 : Hid (DrP j r (laidN l tx (1 + q)).1) := drP_laid hd.out htx ⟨by omega, by omega⟩
    have hwq : IntKind.i64.wrap (1 + q) = 1 + q := IntWalk.i64_in _ ⟨by omega, by omega⟩
    clear hst5 hsh5 hgr5 hx5 hg6 hq1 hsh6 hd
    go_wp2_with fail
    refine hcall.mono ?_
    rintro e w9 ⟨rfl, ⟨u9, hs9⟩, hb9⟩
    have hst9 := st_below hst6 (hb9.mono (by omega))
    have hg9 := gr_lower hgr6 hb9 (by omega)
    have hx9 := (hb9.block w.heap.size (by omega)).trans hx6
    clear hst6 hgr6 hx6 hb9 hcall
    go_wp2
    go_roundw
    case rel => exact ⟨j, r, _, _, by first | (simp; done) | go_num, by omega, hd9, hs9, hst9, hg9, hx9⟩
    case measure => simp [intOf] <;> omega
end Go.Proofs.Ytfoncmeplofedaf
