/- DRAWS of stage 13: l13DrawAny: a shelf that may be wrong in one place. -/
import Derived.Test.YtfoncmeplofedafDrawsW
namespace Go.Proofs.Ytfoncmeplofedaf
open Go.RowKit
set_option linter.unusedVariables false
/-- what any drawn shelf is like -/
def AnyS (r : Int) (l : List It) : Prop := (-1 ≤ r ∧ r ≤ 100001) ∧ l.length ≤ 12 ∧ SmI l 9 ∧ ∀ p ∈ l, In64 p.1 ∧ (-1 ≤ p.2.2.1 ∧ p.2.2.1 ≤ 100001) ∧ (-1 ≤ p.2.2.2.1 ∧ p.2.2.2.1 ≤ 100001)
theorem anyS_drP {r : Int} {l : List It} (h : DrP 0 r l) : AnyS r l := by
  obtain ⟨h1, h2, h3⟩ := shelfB_iff.1 h.1
  refine ⟨⟨by omega, by omega⟩, by have := h.2.2; omega, h.2.1, fun p hp => ?_⟩
  have h9 := (storeB_iff.1 h2).2.1 (itB p) (List.mem_map_of_mem hp)
  have h8 := digest_in p.2.1
  have e : p.1 = digest p.2.1 := h9.2
  obtain ⟨⟨a1, a2⟩, ⟨b1, b2⟩, _⟩ := h3 p hp
  refine ⟨⟨by omega, by omega⟩, ⟨by omega, by omega⟩, ⟨by omega, by omega⟩⟩
theorem anyS_round {r r2 : Int} {l : List It} (h : AnyS r l) (h2 : -1 ≤ r2 ∧ r2 ≤ 100001) : AnyS r2 l := ⟨h2, h.2⟩
theorem anyS_set {r : Int} {l : List It} {k : Nat} {p : It} (h : AnyS r l) (h1 : p.2.1.size ≤ 9) (h2 : In64 p.1 ∧ (-1 ≤ p.2.2.1 ∧ p.2.2.1 ≤ 100001) ∧ (-1 ≤ p.2.2.2.1 ∧ p.2.2.2.1 ≤ 100001)) : AnyS r (l.set k p) :=
  ⟨h.1, by rw [List.length_set]; exact h.2.1, fun q hq => by
    rcases List.mem_or_eq_of_mem_set hq with g | g
    · exact h.2.2.1 q g
    · rw [g]; exact h1, fun q hq => by
    rcases List.mem_or_eq_of_mem_set hq with g | g
    · exact h.2.2.2 q g
    · rw [g]; exact h2⟩
theorem anyS_more {r : Int} {l : List It} {p : It} (h : DrP 0 r l) (h1 : p.2.1.size ≤ 9) (h2 : In64 p.1 ∧ (-1 ≤ p.2.2.1 ∧ p.2.2.1 ≤ 100001) ∧ (-1 ≤ p.2.2.2.1 ∧ p.2.2.2.1 ≤ 100001)) : AnyS r (l ++ [p]) := by
  have h0 := anyS_drP h
  refine ⟨h0.1, by rw [List.length_append, List.length_singleton]; have := h.2.2; omega, fun q hq => ?_, fun q hq => ?_⟩
  · rcases List.mem_append.1 hq with g | g
    · exact h0.2.2.1 q g
    · rw [List.mem_singleton.1 g]; exact h1
  · rcases List.mem_append.1 hq with g | g
    · exact h0.2.2.2 q g
    · rw [List.mem_singleton.1 g]; exact h2
theorem ShB.setRound {B0 B : Nat} {r : Int} {v : Value} {l : List It} {w : World} (h : ShB B0 B r v l w) (z : Int) : ShB B0 B z v l (w.setCell ⟨B, 0, none⟩ (.int .i64 z)) ∧ Below B0 w (w.setCell ⟨B, 0, none⟩ (.int .i64 z)) := by
  have hx := h.box
  exact ⟨⟨by simp [World.setCell, Array.getElem?_modify, hx], own_setNe h.own (fun q hq e => h.ne (by rw [hq]; exact congrArg some e.symm)) _, h.base, h.ne⟩, (Below.refl _ _).setCell (p := ⟨B, 0, none⟩) h.base _⟩
theorem shB_setRow {B0 B : Nat} {r : Int} {v u : Value} {l : List It} {w : World} (hx : w.heap[B]? = some (.cells #[.int .i64 r, u] 33 (0, 0))) (ho : OwnI w B0 v l) (hb : B0 ≤ B) (hn : v.ownBlock ≠ some B) : ShB B0 B r v l (w.setCell ⟨B, 1, none⟩ v) ∧ Below B0 w (w.setCell ⟨B, 1, none⟩ v) :=
  ⟨⟨by simp [World.setCell, Array.getElem?_modify, hx], own_setNe ho (fun q hq e => hn (by rw [hq]; exact congrArg some e.symm)) _, hb, hn⟩, (Below.refl _ _).setCell (p := ⟨B, 1, none⟩) hb _⟩
set_option maxHeartbeats 8000000 in
set_option maxRecDepth 100000 in
theorem l13DrawAny_any (cb : Nat) (v : Value) (bs : List Int) (w : World) (hst : St w cb v bs) (hl : bs.length ≤ 4096) (hz : ∀ j, 0 ≤ bs.getD j 0 ∧ bs.getD j 0 ≤ 255) :
    Calls Try.prog 27 #[.pointer (some ⟨cb, 0, none⟩)] w fun e w' => ∃ (r : Int) (u : Value) (l : List It), e = .returned (.agg #[.int .i64 r, u]) ∧ AnyS r l ∧ OwnI w' w.heap.size u l ∧ St w' cb v bs ∧ w.grownBy w' (some cb) := by
  have hcb := st_lt hst
  have HZ := Lib.hid hz
  obtain ⟨W1, hW1⟩ : ∃ W1, W1 = w.alloc (.cells #[.int .i64 0, .slice none 0 0] 33) := ⟨_, rfl⟩
  have hb1 : Below w.heap.size w W1 := by rw [hW1]; exact (Below.refl w.heap.size w).alloc (Nat.le_refl _) _
  have hs1 : W1.heap.size = w.heap.size + 1 := by rw [hW1, alloc_sizeI]
  have hA : W1.heap[w.heap.size]? = some (.cells #[.int .i64 0, .slice none 0 0] 33 (0, 0)) := by rw [hW1]; exact heap_alloc_new w _
  have hst0 : St W1 cb v bs := st_below hst (hb1.mono (by omega))
  have hg0 : w.grownBy W1 (some cb) := grown_none hb1
  have HFIN : Hid (∀ (w8 : World) (k0 k1 : Value) W3, W3 = (w8.setCell ⟨w.heap.size, 0, none⟩ k0).setCell ⟨w.heap.size, 1, none⟩ k1 → w8.heap[w.heap.size]? = some (.cells #[.int .i64 0, .slice none 0 0] 33 (0, 0)) → w.grownBy w8 (some cb) → St w8 cb v bs → (∀ u L, OwnI w8 (w.heap.size + 1) u L → OwnI W3 w.heap.size u L) ∧ w.grownBy W3 (some cb) ∧ St W3 cb v bs ∧ W3.heap[w.heap.size]? = some (.cells #[k0, k1] 33 (0, 0))) := fun w8 k0 k1 W3 hW3 hx hg hs => by
    subst hW3
    have hb : Below w.heap.size w8 ((w8.setCell ⟨w.heap.size, 0, none⟩ k0).setCell ⟨w.heap.size, 1, none⟩ k1) := ((Below.refl _ _).setCell (p := ⟨w.heap.size, 0, none⟩) (Nat.le_refl _) k0).setCell (p := ⟨w.heap.size, 1, none⟩) (Nat.le_refl _) k1
    exact ⟨fun u L ho => own_lower (own_setCell (own_setCell ho (p := ⟨w.heap.size, 0, none⟩) (by show w.heap.size < _; omega) k0) (p := ⟨w.heap.size, 1, none⟩) (by show w.heap.size < _; omega) k1) (by omega), gr_lower hg hb (Nat.le_refl _), st_below hs (hb.mono (by omega)), by simp [World.setCell, Array.getElem?_modify, hx]⟩
  have hdraw := l13Draw_any cb v bs W1 hst0 hl hz
  rw [hW1] at hdraw
  have HW := Lib.hid hW1
  have HS1 := Lib.hid hs1
  have HA := Lib.hid hA
  have HG0 := Lib.hid hg0
  clear hW1 hb1 hs1 hA hst hz hg0 hst0
  go_enter Try.func27, Try.ntmps27
  go_wp2_with fail
  refine hdraw.mono ?_
  rintro e w2 ⟨r, u, l, rfl, hd, ho2, hst2, hg2⟩
  rw [← HW.out] at ho2 hg2
  rw [HS1.out] at ho2
  have hsz2 : w.heap.size + 1 ≤ w2.heap.size := by have := hg2.size; have := HS1.out; omega
  have hgr2 := grown_trans HG0.out hg2
  have hx2 := (hg2.block w.heap.size (by have := HS1.out; omega) (fun e => by have := Option.some.inj e; omega)).trans HA.out
  have hsh3 : ShB (w.heap.size + 1) w2.heap.size r u l (w2.alloc (.cells #[.int .i64 r, u] 33)) := ⟨heap_alloc_new w2 _, ho2.alloc _, hsz2, fun e => by have := (ho2.lt _ e).2; omega⟩
  have hst3 : St (w2.alloc (.cells #[.int .i64 r, u] 33)) cb v bs := st_below hst2 ((Below.refl _ _).alloc (by omega) _)
  have hgr3 : w.grownBy (w2.alloc (.cells #[.int .i64 r, u] 33)) (some cb) := grown_trans hgr2 (World.grownBy_alloc w2 _ _)
  have hx3 : (w2.alloc (.cells #[.int .i64 r, u] 33)).heap[w.heap.size]? = _ := (Below.heap_alloc _ _ _ (by omega)).trans hx2
  obtain ⟨B, hB⟩ : ∃ B, B = w2.heap.size := ⟨_, rfl⟩
  have HBW := Lib.hid hB
  rw [← hB] at hsh3
  have hd0 := Lib.hid hd
  have HAN := Lib.hid (anyS_drP hd)
  obtain ⟨uo, uc, hvu⟩ := ownG_shape ho2
  have hl12 : l.length ≤ 11 := by have := hd.2.2; omega
  clear hdraw ho2 hst2 hg2 hgr2 hx2 HW HS1 HA HG0 hd hB
  subst hvu
  go_wp2_with fail
  refine (once_any cb v bs 12 _ hst3 hl HZ.out (by omega)).mono ?_
  rintro e w4 ⟨b4, rfl, hst4, hg4⟩
  have hsh4 := hsh3.grow hg4 (by omega)
  have hgr4 := grown_trans hgr3 hg4
  have hx4 := (hg4.block w.heap.size (by rw [World.size_alloc]; omega) (fun e => by have := Option.some.inj e; omega)).trans hx3
  have hsz4 := hsh4.lt
  have hszb := hsh4.base
  rw [← HBW.out]
  clear hst3 hsh3 hgr3 hx3 hg4 hsz2
  cases b4 with
  | false =>
    have HD := HAN
    have k0 := hsh4.c0
    have k1 := hsh4.c1
    obtain ⟨uo9, uc9, hvu9⟩ := ownG_shape hsh4.own
    have HO9 := Lib.hid hsh4.own
    have x0 := cell_of_row w4 w.heap.size 0 _ _ (0, 0) hx4
    have x1 := cell_of_row w4 w.heap.size 1 _ _ (0, 0) hx4
    have z0 := Lib.frozen_of_heap hx4 0
    have z1 := Lib.frozen_of_heap hx4 1
    simp only [List.getElem?_toArray, List.getElem?_cons_zero, List.getElem?_cons_succ] at x0 x1
    have HF := Lib.hid (fun k0 k1 W3 h => HFIN.out w4 k0 k1 W3 h hx4 hgr4 hst4)
    first | subst hvu9 | clear hvu9
    clear hsh4 hst4 hgr4 hx4 HFIN
    go_wp2
    refine bodyPost_ret (results_cell_row (by rfl) _ _ w.heap.size 33 _ (0, 0) _ rfl (HF.out _ _ _ rfl).2.2.2 Try.underlying33 rfl shelf_size) rfl ?_
    first
      | exact ⟨_, _, rfl, _, HD.out, (HF.out _ _ _ rfl).1 _ _ HO9.out, (HF.out _ _ _ rfl).2.2.1, (HF.out _ _ _ rfl).2.1⟩
      | exact ⟨_, _, _, rfl, HD.out, (HF.out _ _ _ rfl).1 _ _ HO9.out, (HF.out _ _ _ rfl).2.2.1, (HF.out _ _ _ rfl).2.1⟩
  | true =>
    go_wp2_with fail
    refine (below_any cb v bs 4 _ hst4 hl HZ.out (by omega)).mono ?_
    rintro e w5 ⟨c, rfl, hc0, hc1, _, hst5, hg5⟩
    have hc2 := hc1 (by omega)
    have hsh5 := hsh4.grow hg5 (by omega)
    have hgr5 := grown_trans hgr4 hg5
    have hx5 := (hg5.block w.heap.size (by omega) (fun e => by have := Option.some.inj e; omega)).trans hx4
    clear hst4 hsh4 hgr4 hx4 hg5 hc1 hsz4
    by_cases h0 : c = 0
    · subst h0
      have hlit := heap_alloc_new w5 (.cells #[.int .i64 (-1), .int .i64 100000, .int .i64 100001] 2)
      have hst6 : St (w5.alloc (.cells #[.int .i64 (-1), .int .i64 100000, .int .i64 100001] 2)) cb v bs := st_below hst5 ((Below.refl _ _).alloc (st_lt hst5) _)
      have hsh6 : ShB (w.heap.size + 1) B r (.slice uo l.length uc) l (w5.alloc (.cells #[.int .i64 (-1), .int .i64 100000, .int .i64 100001] 2)) := hsh5.below ((Below.refl _ _).alloc (Nat.le_refl _) _)
      have hgr6 : w.grownBy (w5.alloc (.cells #[.int .i64 (-1), .int .i64 100000, .int .i64 100001] 2)) (some cb) := grown_trans hgr5 (World.grownBy_alloc w5 _ _)
      have hx6 : (w5.alloc (.cells #[.int .i64 (-1), .int .i64 100000, .int .i64 100001] 2)).heap[w.heap.size]? = _ := (Below.heap_alloc _ _ _ (by have := hsh5.lt; omega)).trans hx5
      have hsz6 := hsh6.lt
      have hlt5 : w5.heap.size < (w5.alloc (.cells #[.int .i64 (-1), .int .i64 100000, .int .i64 100001] 2)).heap.size := by rw [World.size_alloc]; omega
      have hcb5 := st_lt hst5
      clear hst5 hsh5 hgr5 hx5
      go_wp2_with fail
      refine (below_any cb v bs 3 _ hst6 hl HZ.out (by omega)).mono ?_
      rintro e w7 ⟨q, rfl, hq0, hq1, _, hst7, hg7⟩
      have hq2 := hq1 (by omega)
      obtain ⟨n, rfl⟩ : ∃ n : Nat, q = (n : Int) := ⟨q.toNat, by omega⟩
      have hlit7 := (hg7.block w5.heap.size hlt5 (fun e => by have := Option.some.inj e; omega)).trans hlit
      obtain ⟨z, hzc, hz1, hz2⟩ : ∃ z : Int, w7.cell? ⟨w5.heap.size, n, none⟩ = some (.int .i64 z) ∧ -1 ≤ z ∧ z ≤ 100001 := by
        have hn3 : n = 0 ∨ n = 1 ∨ n = 2 := by omega
        rcases hn3 with rfl | rfl | rfl
        · exact ⟨-1, cell_of_row w7 _ 0 _ _ (0, 0) hlit7, by omega, by omega⟩
        · exact ⟨100000, cell_of_row w7 _ 1 _ _ (0, 0) hlit7, by omega, by omega⟩
        · exact ⟨100001, cell_of_row w7 _ 2 _ _ (0, 0) hlit7, by omega, by omega⟩
      have hsh7 := hsh6.grow hg7 (by omega)
      have hgr7 := grown_trans hgr6 hg7
      have hx7 := (hg7.block w.heap.size (by omega) (fun e => by have := Option.some.inj e; omega)).trans hx6
      have c7 := hsh7.c0
      have zf7 := Lib.frozen_of_heap hsh7.box 0
      obtain ⟨hsh8, hb8⟩ := hsh7.setRound z
      have hst8 := st_below hst7 (hb8.mono (by omega))
      have hgr8 := gr_lower hgr7 hb8 (by omega)
      have hx8 := (hb8.block w.heap.size (by omega)).trans hx7
      have HD : Hid (AnyS z l) := anyS_round HAN.out ⟨hz1, hz2⟩
      have hnI : (n : Int) < 3 := by omega
      clear hst6 hsh6 hgr6 hx6 hlit hlit7 hg7 hst7 hgr7 hx7 hsh7 hb8 hq1
      have k0 := hsh8.c0
      have k1 := hsh8.c1
      obtain ⟨uo9, uc9, hvu9⟩ := ownG_shape hsh8.own
      have HO9 := Lib.hid hsh8.own
      have x0 := cell_of_row (w7.setCell ⟨B, 0, none⟩ (.int .i64 z)) w.heap.size 0 _ _ (0, 0) hx8
      have x1 := cell_of_row (w7.setCell ⟨B, 0, none⟩ (.int .i64 z)) w.heap.size 1 _ _ (0, 0) hx8
      have z0 := Lib.frozen_of_heap (w := w7.setCell ⟨B, 0, none⟩ (.int .i64 z)) hx8 0
      have z1 := Lib.frozen_of_heap (w := w7.setCell ⟨B, 0, none⟩ (.int .i64 z)) hx8 1
      simp only [List.getElem?_toArray, List.getElem?_cons_zero, List.getElem?_cons_succ] at x0 x1
      have HF := Lib.hid (fun k0 k1 W3 h => HFIN.out (w7.setCell ⟨B, 0, none⟩ (.int .i64 z)) k0 k1 W3 h hx8 hgr8 hst8)
      first | subst hvu9 | clear hvu9
      clear hsh8 hst8 hgr8 hx8 HFIN
      go_wp2
      refine bodyPost_ret (results_cell_row (by rfl) _ _ w.heap.size 33 _ (0, 0) _ rfl (HF.out _ _ _ rfl).2.2.2 Try.underlying33 rfl shelf_size) rfl ?_
      first
        | exact ⟨_, _, rfl, _, HD.out, (HF.out _ _ _ rfl).1 _ _ HO9.out, (HF.out _ _ _ rfl).2.2.1, (HF.out _ _ _ rfl).2.1⟩
        | exact ⟨_, _, _, rfl, HD.out, (HF.out _ _ _ rfl).1 _ _ HO9.out, (HF.out _ _ _ rfl).2.2.1, (HF.out _ _ _ rfl).2.1⟩
    have h00 : (c == 0) = false := by simpa using h0
    by_cases h1 : c = 1
    · subst h1
      have hdcs : l.length = 0 ∨ 0 < l.length := by omega
      rcases hdcs with hl0 | hlp
      · have hlI : ¬ (0 : Int) < (l.length : Int) := by omega
        have hlN : ¬ 0 < l.length := by omega
        have HD := HAN
        clear hl0
        have k0 := hsh5.c0
        have k1 := hsh5.c1
        obtain ⟨uo9, uc9, hvu9⟩ := ownG_shape hsh5.own
        have HO9 := Lib.hid hsh5.own
        have x0 := cell_of_row (w5) w.heap.size 0 _ _ (0, 0) hx5
        have x1 := cell_of_row (w5) w.heap.size 1 _ _ (0, 0) hx5
        have z0 := Lib.frozen_of_heap (w := w5) hx5 0
        have z1 := Lib.frozen_of_heap (w := w5) hx5 1
        simp only [List.getElem?_toArray, List.getElem?_cons_zero, List.getElem?_cons_succ] at x0 x1
        have HF := Lib.hid (fun k0 k1 W3 h => HFIN.out (w5) k0 k1 W3 h hx5 hgr5 hst5)
        first | subst hvu9 | clear hvu9
        clear hsh5 hst5 hgr5 hx5 HFIN
        go_wp2
        refine bodyPost_ret (results_cell_row (by rfl) _ _ w.heap.size 33 _ (0, 0) _ rfl (HF.out _ _ _ rfl).2.2.2 Try.underlying33 rfl shelf_size) rfl ?_
        first
          | exact ⟨_, _, rfl, _, HD.out, (HF.out _ _ _ rfl).1 _ _ HO9.out, (HF.out _ _ _ rfl).2.2.1, (HF.out _ _ _ rfl).2.1⟩
          | exact ⟨_, _, _, rfl, HD.out, (HF.out _ _ _ rfl).1 _ _ HO9.out, (HF.out _ _ _ rfl).2.2.1, (HF.out _ _ _ rfl).2.1⟩
      · obtain ⟨g, hg0⟩ : ∃ g, uo = some ⟨g, 0, none⟩ := by
          rcases hsh5.own.2 with ⟨h0, _⟩ | ⟨g, c, cur, hv, _⟩
          · simp only [Value.slice.injEq] at h0; omega
          · simp only [Value.slice.injEq] at hv; exact ⟨g, hv.1⟩
        subst hg0
        have hlI : (0 : Int) < (l.length : Int) := by omega
        have hcells := it_cells0 (cellsG_own itW hsh5.own) hlp
        simp only [Nat.zero_mul, Nat.zero_add] at hcells
        obtain ⟨_, _, d2, d3, d4⟩ := hcells
        have hgB : g ≠ B := fun e => hsh5.ne (by rw [e]; rfl)
        have hBg : B ≠ g := fun e => hgB e.symm
        have k15 := hsh5.c1
        have hall := HAN.out.2.2 
        have hmem : l.getD 0 it0 ∈ l := by rw [getD_it hlp]; exact List.getElem_mem hlp
        have hsz9 := hall.1 _ hmem
        have hrg9 := hall.2 _ hmem
        have hit9 := (shelfB_iff.1 hd0.out.1).2.2 _ hmem
        obtain ⟨y, hyy⟩ : ∃ y, y = l.getD 0 it0 := ⟨_, rfl⟩
        have HY := Lib.hid hyy
        rw [← hyy] at d2 d3 d4 hsz9 hrg9 hit9
        obtain ⟨y1, y2, y3, y4, y5⟩ := y
        simp only at d2 d3 d4 hsz9 hrg9
        have hy100 : y3 ≤ 100000 := hit9.1.2
        clear hyy hall hmem hit9
        have z3 := hsh5.own.frozenAt 3
        have hst8a := fun (W : World) (hW : w5.grownBy W (some cb)) (z : Int) => (hsh5.grow hW (by omega)).stored rfl 3 (.int .i64 z) (l.set 0 (y1, y2, y3, z, y5)) (by
          have h9 := it_set4 l 0 hlp z
          rw [← HY.out] at h9
          exact h9) (List.length_set ..)
        have HST8 := Lib.hid hst8a
        have HFR : Hid (∀ W : World, w5.grownBy W (some cb) → W.cell? ⟨g, 3, none⟩ = some (.int .i64 y4) ∧ W.frozen? ⟨g, 3, none⟩ = false) := fun W hW => by
          have h9 := (hsh5.grow hW (by omega)).own
          have hc9 := (it_cells0 (cellsG_own itW h9) hlp).2.2.2.1
          rw [← HY.out] at hc9
          exact ⟨hc9, h9.frozenAt 3⟩
        have HK : Hid (∀ W : World, w5.grownBy W (some cb) → W.cell? ⟨B, 1, none⟩ = some (.slice (some ⟨g, 0, none⟩) l.length uc) ∧ W.cell? ⟨g, 2, none⟩ = some (.int .i64 y3)) := fun W hW => by
          have h8 := hsh5.grow hW (by omega)
          have hc9 := (it_cells0 (cellsG_own itW h8.own) hlp).2.2.1
          rw [← HY.out] at hc9
          exact ⟨h8.c1, hc9⟩
        have HKP : Hid (∀ W : World, w5.grownBy W (some cb) → ∀ z : Int, (W.setCell ⟨g, 3, none⟩ (.int .i64 z)).cell? ⟨B, 1, none⟩ = some (.slice (some ⟨g, 0, none⟩) l.length uc) ∧ (W.setCell ⟨g, 3, none⟩ (.int .i64 z)).cell? ⟨g, 2, none⟩ = some (.int .i64 y3)) := fun W hW z => by
          obtain ⟨e1, e2⟩ := HK.out W hW
          exact ⟨(World.cell?_setCell_other W ⟨g, 3, none⟩ ⟨B, 1, none⟩ _ (by intro e; exact hgB (congrArg Addr.block e))).trans e1, (World.cell?_setCell_other W ⟨g, 3, none⟩ ⟨g, 2, none⟩ _ (by intro e; have := congrArg Addr.off e; simp at this)).trans e2⟩
        have HLIT : Hid (∀ n : Nat, n < 3 → ∃ z : Int, (-1 ≤ z ∧ z ≤ 100001) ∧ ∀ (W : World) (b : Nat), W.heap[b]? = some (.cells #[.int .i64 (-1), .int .i64 0, .int .i64 (y3 + 1)] 2) → W.cell? ⟨b, n, none⟩ = some (.int .i64 z)) := fun n hn => by
          have hn3 : n = 0 ∨ n = 1 ∨ n = 2 := by omega
          have hy3 := hrg9.2.1
          rcases hn3 with rfl | rfl | rfl
          · exact ⟨-1, ⟨by omega, by omega⟩, fun W b h => cell_of_row W b 0 _ _ (0, 0) h⟩
          · exact ⟨0, ⟨by omega, by omega⟩, fun W b h => cell_of_row W b 1 _ _ (0, 0) h⟩
          · exact ⟨y3 + 1, ⟨by omega, by have := hy100; omega⟩, fun W b h => cell_of_row W b 2 _ _ (0, 0) h⟩
        have HBE : Hid (∀ W, w5.grownBy W (some cb) → St W cb v bs → Calls Try.prog 37 #[.pointer (some ⟨cb, 0, none⟩), .int .i64 3] W fun e w' => ∃ n : Nat, e = .returned (.int .i64 (n : Int)) ∧ n < 3 ∧ St w' cb v bs ∧ w5.grownBy w' (some cb) ∧ ∀ b, b < W.heap.size → b ≠ cb → w'.heap[b]? = W.heap[b]?) := fun W hg hs => by
          refine (below_any cb v bs 3 W hs hl HZ.out (by omega)).mono ?_
          rintro e w' ⟨q, rfl, hq0, hq1, _, h1, h2⟩
          have hq2 := hq1 (by omega)
          exact ⟨q.toNat, by rw [Int.toNat_of_nonneg hq0], by omega, h1, grown_trans hg h2, fun b hb hne => h2.block b hb (fun e => hne (Option.some.inj e))⟩
        have hcb5 := st_lt hst5
        have hgd : w5.grownBy w5.drew (some cb) := grown_drew (World.grownBy.refl _ _)
        have hgA : w5.grownBy (w5.alloc (.cells #[.int .i64 (-1), .int .i64 0, .int .i64 (y3 + 1)] 2)).drew (some cb) := grown_drew (World.grownBy_alloc w5 _ _)
        have hsd : St w5.drew cb v bs := hst5
        have hsA : St (w5.alloc (.cells #[.int .i64 (-1), .int .i64 0, .int .i64 (y3 + 1)] 2)).drew cb v bs := (st_below hst5 ((Below.refl _ _).alloc (st_lt hst5) _) : St (w5.alloc (.cells #[.int .i64 (-1), .int .i64 0, .int .i64 (y3 + 1)] 2)) cb v bs)
        have hlA : (w5.alloc (.cells #[.int .i64 (-1), .int .i64 0, .int .i64 (y3 + 1)] 2)).drew.heap[w5.heap.size]? = some (.cells #[.int .i64 (-1), .int .i64 0, .int .i64 (y3 + 1)] 2) := heap_alloc_new w5 _
        have hlt5 : w5.heap.size < (w5.alloc (.cells #[.int .i64 (-1), .int .i64 0, .int .i64 (y3 + 1)] 2)).heap.size := by rw [World.size_alloc]; omega
        have hwr : IntKind.i64.wrap (y3 + 1) = y3 + 1 := IntWalk.i64_in _ ⟨by omega, by omega⟩
        have HS5 := Lib.hid hsh5
        clear hsh5 d3 d4 hst8a z3
        obtain ⟨hkd1, hkd2⟩ := HK.out _ hgd
        obtain ⟨hkA1, hkA2⟩ := HK.out _ hgA
        go_wp2_with fail
        go_region_law (first
          | (go_simp; go_at_call 37; refine (HBE.out _ hgA hsA).mono ?_; rintro e w7 ⟨n, rfl, hn3, hst7, hg7, hbk⟩; have hn3I : (n : Int) < 3 := Int.ofNat_lt.2 hn3; obtain ⟨z, hzr, hzL⟩ := HLIT.out n hn3; have hzA := hzL w7 w5.heap.size ((hbk w5.heap.size hlt5 (Nat.ne_of_gt hcb5)).trans hlA); obtain ⟨hk1, hk2⟩ := HK.out w7 hg7; obtain ⟨hq3, hq4⟩ := HFR.out w7 hg7; have hkp9 := HKP.out w7 hg7 z; clear hzL hbk)
          | (go_simp; go_at_call 37; refine (HBE.out _ hgd hsd).mono ?_; rintro e w7 ⟨n, rfl, hn3, hst7, hg7, hbk⟩; have hn3I : (n : Int) < 3 := Int.ofNat_lt.2 hn3; obtain ⟨z, hzr, hzL⟩ := HLIT.out n hn3; have hzA := hzL (w7.alloc (.cells #[.int .i64 (-1), .int .i64 0, .int .i64 (y3 + 1)] 2)) w7.heap.size (heap_alloc_new w7 _); obtain ⟨hk1, hk2⟩ := HK.out w7 hg7; obtain ⟨hka1, hka2⟩ := HK.out (w7.alloc (.cells #[.int .i64 (-1), .int .i64 0, .int .i64 (y3 + 1)] 2)) (grown_trans hg7 (World.grownBy_alloc w7 _ _)); obtain ⟨hq3, hq4⟩ := HFR.out (w7.alloc (.cells #[.int .i64 (-1), .int .i64 0, .int .i64 (y3 + 1)] 2)) (grown_trans hg7 (World.grownBy_alloc w7 _ _)); have hkp9 := HKP.out (w7.alloc (.cells #[.int .i64 (-1), .int .i64 0, .int .i64 (y3 + 1)] 2)) (grown_trans hg7 (World.grownBy_alloc w7 _ _)) z; clear hzL hbk))
        all_goals first
        | (
              have hgW : w5.grownBy (w7) (some cb) := hg7
              obtain ⟨hsh8, hb8⟩ := HST8.out _ hgW z
              have hst7W : St (w7) cb v bs := hst7
              have hst8 := st_below hst7W (hb8.mono (by omega))
              have hgr8 := gr_lower (grown_trans hgr5 hgW) hb8 (by omega)
              have hx8 := (hb8.block w.heap.size (by omega)).trans ((hgW.block w.heap.size (by have := HS5.out.lt; omega) (fun e => by have := Option.some.inj e; omega)).trans hx5)
              have HD : Hid (AnyS r (l.set 0 (y1, y2, y3, z, y5))) := anyS_set HAN.out hsz9 ⟨hrg9.1, hrg9.2.1, hzr⟩
              clear hst7W hb8 hst5 hgr5 hx5 hgW hkp9 hq3 hq4 hzA hg7 hst7 HKP HK HFR HBE HLIT HST8
              have k0 := hsh8.c0
              have k1 := hsh8.c1
              obtain ⟨uo9, uc9, hvu9⟩ := ownG_shape hsh8.own
              have HO9 := Lib.hid hsh8.own
              have x0 := cell_of_row (w7.setCell ⟨g, 3, none⟩ (.int .i64 z)) w.heap.size 0 _ _ (0, 0) hx8
              have x1 := cell_of_row (w7.setCell ⟨g, 3, none⟩ (.int .i64 z)) w.heap.size 1 _ _ (0, 0) hx8
              have z0 := Lib.frozen_of_heap (w := w7.setCell ⟨g, 3, none⟩ (.int .i64 z)) hx8 0
              have z1 := Lib.frozen_of_heap (w := w7.setCell ⟨g, 3, none⟩ (.int .i64 z)) hx8 1
              simp only [List.getElem?_toArray, List.getElem?_cons_zero, List.getElem?_cons_succ] at x0 x1
              have HF := Lib.hid (fun k0 k1 W3 h => HFIN.out (w7.setCell ⟨g, 3, none⟩ (.int .i64 z)) k0 k1 W3 h hx8 hgr8 hst8)
              first | subst hvu9 | clear hvu9
              clear hsh8 hst8 hgr8 hx8 HFIN
              go_wp2
              refine bodyPost_ret (results_cell_row (by rfl) _ _ w.heap.size 33 _ (0, 0) _ rfl (HF.out _ _ _ rfl).2.2.2 Try.underlying33 rfl shelf_size) rfl ?_
              first
                | exact ⟨_, _, rfl, _, HD.out, (HF.out _ _ _ rfl).1 _ _ HO9.out, (HF.out _ _ _ rfl).2.2.1, (HF.out _ _ _ rfl).2.1⟩
                | exact ⟨_, _, _, rfl, HD.out, (HF.out _ _ _ rfl).1 _ _ HO9.out, (HF.out _ _ _ rfl).2.2.1, (HF.out _ _ _ rfl).2.1⟩)
        | (
              have hgW : w5.grownBy (w7.alloc (.cells #[.int .i64 (-1), .int .i64 0, .int .i64 (y3 + 1)] 2)) (some cb) := grown_trans hg7 (World.grownBy_alloc w7 _ _)
              obtain ⟨hsh8, hb8⟩ := HST8.out _ hgW z
              have hst7W : St (w7.alloc (.cells #[.int .i64 (-1), .int .i64 0, .int .i64 (y3 + 1)] 2)) cb v bs := st_below hst7 ((Below.refl _ _).alloc (st_lt hst7) _)
              have hst8 := st_below hst7W (hb8.mono (by omega))
              have hgr8 := gr_lower (grown_trans hgr5 hgW) hb8 (by omega)
              have hx8 := (hb8.block w.heap.size (by omega)).trans ((hgW.block w.heap.size (by have := HS5.out.lt; omega) (fun e => by have := Option.some.inj e; omega)).trans hx5)
              have HD : Hid (AnyS r (l.set 0 (y1, y2, y3, z, y5))) := anyS_set HAN.out hsz9 ⟨hrg9.1, hrg9.2.1, hzr⟩
              clear hst7W hb8 hst5 hgr5 hx5 hgW hkp9 hq3 hq4 hzA hg7 hst7 HKP HK HFR HBE HLIT HST8
              have k0 := hsh8.c0
              have k1 := hsh8.c1
              obtain ⟨uo9, uc9, hvu9⟩ := ownG_shape hsh8.own
              have HO9 := Lib.hid hsh8.own
              have x0 := cell_of_row ((w7.alloc (.cells #[.int .i64 (-1), .int .i64 0, .int .i64 (y3 + 1)] 2)).setCell ⟨g, 3, none⟩ (.int .i64 z)) w.heap.size 0 _ _ (0, 0) hx8
              have x1 := cell_of_row ((w7.alloc (.cells #[.int .i64 (-1), .int .i64 0, .int .i64 (y3 + 1)] 2)).setCell ⟨g, 3, none⟩ (.int .i64 z)) w.heap.size 1 _ _ (0, 0) hx8
              have z0 := Lib.frozen_of_heap (w := (w7.alloc (.cells #[.int .i64 (-1), .int .i64 0, .int .i64 (y3 + 1)] 2)).setCell ⟨g, 3, none⟩ (.int .i64 z)) hx8 0
              have z1 := Lib.frozen_of_heap (w := (w7.alloc (.cells #[.int .i64 (-1), .int .i64 0, .int .i64 (y3 + 1)] 2)).setCell ⟨g, 3, none⟩ (.int .i64 z)) hx8 1
              simp only [List.getElem?_toArray, List.getElem?_cons_zero, List.getElem?_cons_succ] at x0 x1
              have HF := Lib.hid (fun k0 k1 W3 h => HFIN.out ((w7.alloc (.cells #[.int .i64 (-1), .int .i64 0, .int .i64 (y3 + 1)] 2)).setCell ⟨g, 3, none⟩ (.int .i64 z)) k0 k1 W3 h hx8 hgr8 hst8)
              first | subst hvu9 | clear hvu9
              clear hsh8 hst8 hgr8 hx8 HFIN
              go_wp2
              refine bodyPost_ret (results_cell_row (by rfl) _ _ w.heap.size 33 _ (0, 0) _ rfl (HF.out _ _ _ rfl).2.2.2 Try.underlying33 rfl shelf_size) rfl ?_
              first
                | exact ⟨_, _, rfl, _, HD.out, (HF.out _ _ _ rfl).1 _ _ HO9.out, (HF.out _ _ _ rfl).2.2.1, (HF.out _ _ _ rfl).2.1⟩
                | exact ⟨_, _, _, rfl, HD.out, (HF.out _ _ _ rfl).1 _ _ HO9.out, (HF.out _ _ _ rfl).2.2.1, (HF.out _ _ _ rfl).2.1⟩)
    have h11 : (c == 1) = false := by simpa using h1
    by_cases h2 : c = 2
    · subst h2
      have hdcs : l.length = 0 ∨ 0 < l.length := by omega
      rcases hdcs with hl0 | hlp
      · have hlI : ¬ (0 : Int) < (l.length : Int) := by omega
        have hlN : ¬ 0 < l.length := by omega
        have HD := HAN
        clear hl0
        have k0 := hsh5.c0
        have k1 := hsh5.c1
        obtain ⟨uo9, uc9, hvu9⟩ := ownG_shape hsh5.own
        have HO9 := Lib.hid hsh5.own
        have x0 := cell_of_row (w5) w.heap.size 0 _ _ (0, 0) hx5
        have x1 := cell_of_row (w5) w.heap.size 1 _ _ (0, 0) hx5
        have z0 := Lib.frozen_of_heap (w := w5) hx5 0
        have z1 := Lib.frozen_of_heap (w := w5) hx5 1
        simp only [List.getElem?_toArray, List.getElem?_cons_zero, List.getElem?_cons_succ] at x0 x1
        have HF := Lib.hid (fun k0 k1 W3 h => HFIN.out (w5) k0 k1 W3 h hx5 hgr5 hst5)
        first | subst hvu9 | clear hvu9
        clear hsh5 hst5 hgr5 hx5 HFIN
        go_wp2
        refine bodyPost_ret (results_cell_row (by rfl) _ _ w.heap.size 33 _ (0, 0) _ rfl (HF.out _ _ _ rfl).2.2.2 Try.underlying33 rfl shelf_size) rfl ?_
        first
          | exact ⟨_, _, rfl, _, HD.out, (HF.out _ _ _ rfl).1 _ _ HO9.out, (HF.out _ _ _ rfl).2.2.1, (HF.out _ _ _ rfl).2.1⟩
          | exact ⟨_, _, _, rfl, HD.out, (HF.out _ _ _ rfl).1 _ _ HO9.out, (HF.out _ _ _ rfl).2.2.1, (HF.out _ _ _ rfl).2.1⟩
      · obtain ⟨g, hg0⟩ : ∃ g, uo = some ⟨g, 0, none⟩ := by
          rcases hsh5.own.2 with ⟨h0, _⟩ | ⟨g, c, cur, hv, _⟩
          · simp only [Value.slice.injEq] at h0; omega
          · simp only [Value.slice.injEq] at hv; exact ⟨g, hv.1⟩
        subst hg0
        have hlI : (0 : Int) < (l.length : Int) := by omega
        have hcells := it_cells0 (cellsG_own itW hsh5.own) hlp
        simp only [Nat.zero_mul, Nat.zero_add] at hcells
        obtain ⟨_, _, d2, d3, d4⟩ := hcells
        have hgB : g ≠ B := fun e => hsh5.ne (by rw [e]; rfl)
        have hBg : B ≠ g := fun e => hgB e.symm
        have k15 := hsh5.c1
        have hall := HAN.out.2.2 
        have hmem : l.getD 0 it0 ∈ l := by rw [getD_it hlp]; exact List.getElem_mem hlp
        have hsz9 := hall.1 _ hmem
        have hrg9 := hall.2 _ hmem
        have hit9 := (shelfB_iff.1 hd0.out.1).2.2 _ hmem
        obtain ⟨y, hyy⟩ : ∃ y, y = l.getD 0 it0 := ⟨_, rfl⟩
        have HY := Lib.hid hyy
        rw [← hyy] at d2 d3 d4 hsz9 hrg9 hit9
        obtain ⟨y1, y2, y3, y4, y5⟩ := y
        simp only at d2 d3 d4 hsz9 hrg9
        have hy100 : y3 ≤ 100000 := hit9.1.2
        clear hyy hall hmem hit9
        have z4 := hsh5.own.frozenAt 4
        have hst8a := hsh5.stored rfl 4 (.bool (!y5)) (l.set 0 (y1, y2, y3, y4, !y5)) (by
          have h9 := it_set5 l 0 hlp (!y5)
          rw [← HY.out] at h9
          exact h9) (List.length_set ..)
        obtain ⟨hsh8, hb8⟩ := hst8a
        have hst8 := st_below hst5 (hb8.mono (by omega))
        have hgr8 := grown_drew (gr_lower hgr5 hb8 (by omega))
        have hx8 := (hb8.block w.heap.size (by omega)).trans hx5
        have HD : Hid (AnyS r (l.set 0 (y1, y2, y3, y4, !y5))) := anyS_set HAN.out hsz9 hrg9
        clear hsh5 hst5 hgr5 hx5 hb8 d2 d3
        go_wp2_with fail
        go_region_with (fail)
        all_goals
          have k0 := hsh8.c0
          have k1 := hsh8.c1
          obtain ⟨uo9, uc9, hvu9⟩ := ownG_shape hsh8.own
          have HO9 := Lib.hid hsh8.own
          have x0 := cell_of_row (w5.setCell ⟨g, 4, none⟩ (.bool (!y5))) w.heap.size 0 _ _ (0, 0) hx8
          have x1 := cell_of_row (w5.setCell ⟨g, 4, none⟩ (.bool (!y5))) w.heap.size 1 _ _ (0, 0) hx8
          have z0 := Lib.frozen_of_heap (w := w5.setCell ⟨g, 4, none⟩ (.bool (!y5))) hx8 0
          have z1 := Lib.frozen_of_heap (w := w5.setCell ⟨g, 4, none⟩ (.bool (!y5))) hx8 1
          simp only [List.getElem?_toArray, List.getElem?_cons_zero, List.getElem?_cons_succ] at x0 x1
          have HF := Lib.hid (fun k0 k1 W3 h => HFIN.out ((w5.setCell ⟨g, 4, none⟩ (.bool (!y5))).drew) k0 k1 W3 h hx8 hgr8 hst8)
          first | subst hvu9 | clear hvu9
          clear hsh8 hst8 hgr8 hx8 HFIN
          go_wp2
          refine bodyPost_ret (results_cell_row (by rfl) _ _ w.heap.size 33 _ (0, 0) _ rfl (HF.out _ _ _ rfl).2.2.2 Try.underlying33 rfl shelf_size) rfl ?_
          first
            | exact ⟨_, _, rfl, _, HD.out, (HF.out _ _ _ rfl).1 _ _ HO9.out, (HF.out _ _ _ rfl).2.2.1, (HF.out _ _ _ rfl).2.1⟩
            | exact ⟨_, _, _, rfl, HD.out, (HF.out _ _ _ rfl).1 _ _ HO9.out, (HF.out _ _ _ rfl).2.2.1, (HF.out _ _ _ rfl).2.1⟩
    have h22 : (c == 2) = false := by simpa using h2
    obtain rfl : c = 3 := by omega
    have hoa := hsh5.own.alloc (.cells #[.int .i64 0, .string ⟨#[]⟩, .int .i64 0, .int .i64 0, .bool false] 43)
    have hrq := rdG_one itW w5 itZ 43
    have hsA : w.heap.size + 1 ≤ (w5.alloc (.cells #[.int .i64 0, .string ⟨#[]⟩, .int .i64 0, .int .i64 0, .bool false] 43)).heap.size := by rw [World.size_alloc]; have := hsh5.lt; omega
    have hln : l.length + [itZ].length ≤ 16777216 := by rw [List.length_singleton]; omega
    have hbx := hsh5.box
    have hBl := hsh5.lt
    have hne5 := hsh5.ne
    have k15 := hsh5.c1
    have hbA : Below (w.heap.size + 1) w5 (w5.alloc (.cells #[.int .i64 0, .string ⟨#[]⟩, .int .i64 0, .int .i64 0, .bool false] 43)) := (Below.refl _ _).alloc (by omega) _
    clear hsh5
    go_wp2_with (at_builtin; refine own_stepG (itY.ty itW) itW rfl _ _ rfl (w.heap.size + 1) _ (.slice (some ⟨w5.heap.size, 0, none⟩) 1 1) l [itZ] rfl rfl hoa hrq hln hsA ?_)
    intro v20 w20 ho20 hg20 hi20
    have hb20 : Below (w.heap.size + 1) w5 w20 := hbA.grown hg20 hsA (fun q hq => (hoa.lt q hq).1)
    have hbx20 : w20.heap[B]? = _ := (hg20.block B (by rw [World.size_alloc]; omega) (fun e => hne5 e.symm)).trans ((heap_alloc_old w5 _ hBl).trans hbx)
    have hv20 : v20.ownBlock ≠ some B := fun e => by
      rcases hi20 B e with h9 | h9
      · exact hne5 h9
      · first | omega | (rw [World.size_alloc] at h9; omega)
    have c120 := cell_of_row w20 B 1 _ _ (0, 0) hbx20
    simp only [List.getElem?_toArray, List.getElem?_cons_zero, List.getElem?_cons_succ] at c120
    have zf20 := Lib.frozen_of_heap hbx20 1
    have ho21 : OwnI w20 (w.heap.size + 1) v20 (l ++ [itZ]) := by simpa using ho20
    obtain ⟨hsh8, hb8⟩ := shB_setRow hbx20 ho21 hszb hv20
    obtain ⟨fo, fc, hvf⟩ := ownG_shape ho21
    have hb9 := hb20.trans hb8
    have hst8 := st_below hst5 (hb9.mono (by omega))
    have hgr8 := gr_lower hgr5 hb9 (by omega)
    have hx8 := (hb9.block w.heap.size (by omega)).trans hx5
    have HD : Hid (AnyS r (l ++ [itZ])) := anyS_more hd0.out (by decide) ⟨⟨by decide, by decide⟩, ⟨by decide, by decide⟩, ⟨by decide, by decide⟩⟩
    rw [show (l ++ [itZ]).length = l.length + 1 from by simp] at hvf
    subst hvf
    clear hoa hrq hsA hln hbx hbA ho20 ho21 hg20 hi20 hb20 hbx20 hv20 hb8 hb9 hst5 hgr5 hx5 hne5
    have k0 := hsh8.c0
    have k1 := hsh8.c1
    obtain ⟨uo9, uc9, hvu9⟩ := ownG_shape hsh8.own
    have HO9 := Lib.hid hsh8.own
    have x0 := cell_of_row (w20.setCell ⟨B, 1, none⟩ (.slice fo (l.length + 1) fc)) w.heap.size 0 _ _ (0, 0) hx8
    have x1 := cell_of_row (w20.setCell ⟨B, 1, none⟩ (.slice fo (l.length + 1) fc)) w.heap.size 1 _ _ (0, 0) hx8
    have z0 := Lib.frozen_of_heap (w := w20.setCell ⟨B, 1, none⟩ (.slice fo (l.length + 1) fc)) hx8 0
    have z1 := Lib.frozen_of_heap (w := w20.setCell ⟨B, 1, none⟩ (.slice fo (l.length + 1) fc)) hx8 1
    simp only [List.getElem?_toArray, List.getElem?_cons_zero, List.getElem?_cons_succ] at x0 x1
    have HF := Lib.hid (fun k0 k1 W3 h => HFIN.out (w20.setCell ⟨B, 1, none⟩ (.slice fo (l.length + 1) fc)) k0 k1 W3 h hx8 hgr8 hst8)
    first | subst hvu9 | clear hvu9
    clear hsh8 hst8 hgr8 hx8 HFIN
    go_wp2
    refine bodyPost_ret (results_cell_row (by rfl) _ _ w.heap.size 33 _ (0, 0) _ rfl (HF.out _ _ _ rfl).2.2.2 Try.underlying33 rfl shelf_size) rfl ?_
    first
      | exact ⟨_, _, rfl, _, HD.out, (HF.out _ _ _ rfl).1 _ _ HO9.out, (HF.out _ _ _ rfl).2.2.1, (HF.out _ _ _ rfl).2.1⟩
      | exact ⟨_, _, _, rfl, HD.out, (HF.out _ _ _ rfl).1 _ _ HO9.out, (HF.out _ _ _ rfl).2.2.1, (HF.out _ _ _ rfl).2.1⟩
end Go.Proofs.Ytfoncmeplofedaf
