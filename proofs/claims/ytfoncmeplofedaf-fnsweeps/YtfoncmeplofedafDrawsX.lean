/- DRAWS of stage 13: DrawShelfOk, DrawSynced, DrawCrashed, DrawFetched, DrawSwept, DrawLaid. (Written by shdraw3.py.) -/
import Derived.Test.YtfoncmeplofedafDrawsY
namespace Go.Proofs.Ytfoncmeplofedaf
open Go.RowKit
set_option linter.unusedVariables false
/-- the result's box stands at A: what is laid there in the end -/
theorem res_fin {A : Nat} {w0 w8 W3 : World} {k0 k1 : Value} (hx : w8.heap[A]? = some (.cells #[.int .i64 0, .slice none 0 0] 33 (0, 0))) (hW : W3 = (w8.setCell ⟨A, 0, none⟩ k0).setCell ⟨A, 1, none⟩ k1) (hb : Below A w0 w8) :
    (∀ u L, OwnI w8 (A + 1) u L → OwnI W3 A u L) ∧ (∀ u (L : List Int), w8.ownsRow (A + 1) 2 1 u L.length (cellsInt64S L) → W3.ownsRow A 2 1 u L.length (cellsInt64S L)) ∧ Below A w0 W3 ∧ W3.heap[A]? = some (.cells #[k0, k1] 33 (0, 0)) := by
  subst hW
  exact ⟨fun u L ho => own_lower (own_setCell (own_setCell ho (p := ⟨A, 0, none⟩) (by show A < _; omega) k0) (p := ⟨A, 1, none⟩) (by show A < _; omega) k1) (by omega), fun u L ho => own_lower (own_setCell (own_setCell ho (p := ⟨A, 0, none⟩) (by show A < _; omega) k0) (p := ⟨A, 1, none⟩) (by show A < _; omega) k1) (by omega), (hb.setCell (p := ⟨A, 0, none⟩) (Nat.le_refl _) k0).setCell (p := ⟨A, 1, none⟩) (Nat.le_refl _) k1, by simp [World.setCell, Array.getElem?_modify, hx]⟩
theorem size_two (W : World) (A : Nat) (x y : Value) : ((W.setCell ⟨A, 0, none⟩ x).setCell ⟨A, 1, none⟩ y).heap.size = W.heap.size := by simp
theorem far_two (W : World) (A b n : Nat) (x y : Value) {z : Value} (h : A ≠ b) (hz : W.cell? ⟨b, n, none⟩ = some z) : ((W.setCell ⟨A, 0, none⟩ x).setCell ⟨A, 1, none⟩ y).cell? ⟨b, n, none⟩ = some z :=
  ((World.cell?_setCell_far _ ⟨A, 1, none⟩ _ _ h).trans (World.cell?_setCell_far _ ⟨A, 0, none⟩ _ _ h)).trans hz
theorem from13_any (cb : Nat) (v : Value) (bs : List Int) (w : World) (hst : St w cb v bs) (hl : bs.length ≤ 4096) (hz : ∀ j, 0 ≤ bs.getD j 0 ∧ bs.getD j 0 ≤ 255) :
    Calls Try.prog 29 #[.pointer (some ⟨cb, 0, none⟩), .int .i64 (-1), .int .i64 6] w fun e w' => ∃ r : Int, e = .returned (.int .i64 r) ∧ -1 ≤ r ∧ r ≤ 6 ∧ St w' cb v bs ∧ w.grownBy w' (some cb) := by
  go_enter Try.func29, Try.ntmps29
  go_wp2_with fail
  refine (below_any cb v bs 8 _ hst hl hz (by omega)).mono ?_
  rintro e w2 ⟨q, rfl, h0, h1, _, h2, h3⟩
  have h4 := h1 (by omega)
  have hw : IntKind.i64.wrap (-1 + q) = -1 + q := IntWalk.i64_in _ ⟨by omega, by omega⟩
  go_wp2
  go_ret
  exact ⟨_, rfl, by omega, by omega, h2, h3⟩
theorem l1Min13_any (a b : Int) (w : World) : ∃ z, (z = a ∨ z = b) ∧ z ≤ a ∧ z ≤ b ∧ Calls Try.prog 26 #[.int .i64 a, .int .i64 b] w fun e w' => e = .returned (.int .i64 z) ∧ w' = w := by
  by_cases h : a < b
  · refine ⟨a, Or.inl rfl, Int.le_refl _, by omega, ?_⟩
    go_enter Try.func26, Try.ntmps26
    go_wp2
    go_ret
    exact ⟨rfl, rfl⟩
  · refine ⟨b, Or.inr rfl, by omega, Int.le_refl _, ?_⟩
    go_enter Try.func26, Try.ntmps26
    go_wp2
    go_ret
    exact ⟨rfl, rfl⟩
set_option maxHeartbeats 8000000 in
set_option maxRecDepth 100000 in
theorem drawSwept_any (va : Value) (bs : List Int) (w : World) (ha : Rd w va (cellsByteS bs)) (hl : bs.length ≤ 4096) (hz : Bytes bs) :
    Calls Try.prog 12 #[va] w fun e w' => ∃ (r : Int) (u : Value) (l : List It) (round : Int) (vm : Value) (ms : List Int), e = .returned (.tuple #[.agg #[.int .i64 r, u], .int .i64 round, vm]) ∧ AnyS r l ∧ (-1 ≤ round ∧ round ≤ 1006) ∧ (ms.length ≤ 5 ∧ ∀ d ∈ ms, In64 d) ∧ OwnI w' w.heap.size u l ∧ w'.ownsRow w.heap.size 2 1 vm ms.length (cellsInt64S ms) ∧ Below w.heap.size w w' := by
  have hla : (cellsByteS bs).length = bs.length := by simp
  obtain ⟨W1, hW1⟩ : ∃ W1, W1 = w.alloc (.cells #[.int .i64 0, .slice none 0 0] 33) := ⟨_, rfl⟩
  have hb1 : Below w.heap.size w W1 := by rw [hW1]; exact (Below.refl w.heap.size w).alloc (Nat.le_refl _) _
  have hs1 : W1.heap.size = w.heap.size + 1 := by rw [hW1, alloc_sizeI]
  have hA : W1.heap[w.heap.size]? = some (.cells #[.int .i64 0, .slice none 0 0] 33 (0, 0)) := by rw [hW1]; exact heap_alloc_new w _
  have hzb : ∀ j, 0 ≤ bs.getD j 0 ∧ bs.getD j 0 ≤ 255 := bytes_get hz
  have HZ := Lib.hid hzb
  have hnew := new_any va bs W1 (rd_below ha hb1) hl hzb
  rw [hs1] at hnew
  rw [hW1] at hnew
  obtain ⟨ao, cap, hv, _⟩ := ha
  rw [hla] at hv
  have HW := Lib.hid hW1
  have HB1 := Lib.hid hb1
  have HS1 := Lib.hid hs1
  have HA := Lib.hid hA
  subst hv
  clear hW1 hb1 hs1 hA hz hzb hla
  go_enter Try.func12, Try.ntmps12
  go_wp2_with fail
  refine hnew.mono ?_
  rintro e w2 ⟨rfl, hst2, hb2, hsz2⟩
  rw [← HW.out] at hb2
  have hS := HS1.out
  have hB2 := HB1.out.trans (hb2.mono (by omega))
  have hx2 := (hb2.block w.heap.size (by omega)).trans HA.out
  have hdraw := l13DrawAny_any (w.heap.size + 1) (.slice ao bs.length cap) bs w2 hst2 hl HZ.out
  clear hnew hb2 HW HB1 HA hst2
  go_wp2_with fail
  refine hdraw.mono ?_
  rintro e w3 ⟨r, u, l, rfl, han, ho3, hst3, hg3⟩
  have hB3 : Below w.heap.size w w3 := hB2.grown hg3 (by omega) (fun q hq => by cases hq; omega)
  have hx3 := (hg3.block w.heap.size (by omega) (fun e => by have := Option.some.inj e; omega)).trans hx2
  have hs3 : w.heap.size + 1 + 1 ≤ w3.heap.size := by have := hg3.size; omega
  have ho3' : OwnI w3 (w.heap.size + 1) u l := own_lower ho3 (by omega)
  have ho3b : OwnI w3 (w.heap.size + 1 + 1) u l := by rw [← hsz2]; exact ho3
  obtain ⟨uo, uc, hvu⟩ := ownG_shape ho3
  clear hdraw hg3 hB2 hx2 ho3 hsz2
  have hlr : l.length ≤ 12 := han.2.1
  obtain ⟨B, hBe⟩ : ∃ B, B = w3.heap.size := ⟨_, rfl⟩
  have HBW := Lib.hid hBe
  have hsh4 : ShB (w.heap.size + 1 + 1) B r u l (w3.alloc (.cells #[.int .i64 r, u] 33)) := by
    rw [hBe]
    exact ⟨heap_alloc_new w3 _, ho3b.alloc _, hs3, fun e => by have := (ho3b.lt _ e).2; omega⟩
  have hst4 : St (w3.alloc (.cells #[.int .i64 r, u] 33)) (w.heap.size + 1) (.slice ao bs.length cap) bs := st_below hst3 ((Below.refl _ _).alloc (by omega) _)
  have hB4 : Below w.heap.size w (w3.alloc (.cells #[.int .i64 r, u] 33)) := hB3.alloc hB3.size _
  have hx4 : (w3.alloc (.cells #[.int .i64 r, u] 33)).heap[w.heap.size]? = _ := (heap_alloc_old w3 _ (by omega)).trans hx3
  have HAN := Lib.hid han
  clear ho3' ho3b hst3 hB3 hx3 han hBe
  have hlen : (itBs l).length = l.length := List.length_map _
  have hlt4 := st_lt hst4
  have k40 := hsh4.c0
  have hrr := HAN.out.1
  obtain ⟨z, _, hz1, hz2, hmin⟩ := l1Min13_any 1000 r (w3.alloc (.cells #[.int .i64 r, u] 33))
  have hmax := l1Max13_any 0 z (w3.alloc (.cells #[.int .i64 r, u] 33))
  obtain ⟨z2, hz2e⟩ : ∃ z2, z2 = max 0 z := ⟨_, rfl⟩
  rw [← hz2e] at hmax
  have hz3 : 0 ≤ z2 ∧ z2 ≤ 1000 := by omega
  have hfrom := from13_any (w.heap.size + 1) (.slice ao bs.length cap) bs _ hst4 hl HZ.out
  subst hvu
  clear hz1 hz2 hz2e
  go_wp2_with fail
  refine hmin.mono ?_
  rintro e w5 ⟨rfl, rfl⟩
  go_wp2_with fail
  refine hmax.mono ?_
  rintro e w5 ⟨rfl, rfl⟩
  go_wp2_with fail
  refine hfrom.mono ?_
  rintro e w6 ⟨q, rfl, hq0, hq1, hst6, hg6⟩
  rw [← HBW.out]
  have hsh6 := hsh4.grow hg6 (by omega)
  have hB6 : Below w.heap.size w w6 := hB4.grown hg6 hB4.size (fun q hq => by cases hq; omega)
  have hx6 := (hg6.block w.heap.size (by have := hsh4.lt; have := hsh4.base; omega) (fun e => by have := Option.some.inj e; omega)).trans hx4
  have hwq : IntKind.i64.wrap (z2 + q) = z2 + q := IntWalk.i64_in _ ⟨by omega, by omega⟩
  clear hmin hmax hfrom hsh4 hst4 hB4 hx4 hg6 k40 hlt4
  obtain ⟨rd, hrd⟩ : ∃ rd, rd = z2 + q := ⟨_, rfl⟩
  have hrdr : -1 ≤ rd ∧ rd ≤ 1006 := by omega
  rw [← hrd] at hwq
  have HRD := Lib.hid hrd
  have hcb6 := st_lt hst6
  have HE : Hid (∀ W, w6.grownBy W (some (w.heap.size + 1)) → ShB (w.heap.size + 1 + 1) B r (.slice uo l.length uc) l W) := fun W hg => hsh6.grow hg (by omega)
  have HBL : Hid (∀ W, w6.grownBy W (some (w.heap.size + 1)) → Calls Try.prog 31 #[.agg #[.int .i64 r, .slice uo l.length uc]] W fun e w' => ∃ vb, e = .returned vb ∧ w'.ownsRow W.heap.size 41 2 vb l.length (blC (itBs l)) ∧ w6.grownBy w' (some (w.heap.size + 1)) ∧ Below W.heap.size W w') := fun W hg => by
    refine (l13Blobs_any r _ l W (rdG_owns itW (HE.out W hg).own) (by omega)).mono ?_
    rintro e w' ⟨vb, rfl, h1, h2⟩
    exact ⟨vb, rfl, h1, gr_lower hg h2 hg.size, h2⟩
  have HDG : Hid (∀ W vb B9, w6.grownBy W (some (w.heap.size + 1)) → St W (w.heap.size + 1) (.slice ao bs.length cap) bs → W.ownsRow B9 41 2 vb l.length (blC (itBs l)) → w.heap.size + 1 < B9 → Calls Try.prog 30 #[.pointer (some ⟨w.heap.size + 1, 0, none⟩), vb] W fun e w' => ∃ (v' : Value) (ds : List Int), e = .returned v' ∧ (ds.length ≤ 5 ∧ ∀ d ∈ ds, In64 d) ∧ w'.ownsRow (w.heap.size + 1) 2 1 v' ds.length (cellsInt64S ds) ∧ w6.grownBy w' (some (w.heap.size + 1))) := fun W vb B9 hg hs ho hB => by
    refine (l7DrawDigests_any (w.heap.size + 1) (.slice ao bs.length cap) bs vb (itBs l) B9 W hs hl HZ.out (by rw [hlen]; exact ho) hB (by omega) (fun p hp => ?_)).mono ?_
    · obtain ⟨q, hq, rfl⟩ := List.mem_map.1 hp
      exact (HAN.out.2.2.2 q hq).1
    · rintro e w' ⟨v', ds, rfl, h5, h55, h6, h7, h8⟩
      exact ⟨v', ds, rfl, ⟨h5, h55⟩, own_lower h6 (by have := hg.size; have := st_lt hs; omega), grown_trans hg h8⟩
  have hszB : w.heap.size + 1 + 1 ≤ B := hsh6.base
  have hAB : w.heap.size ≠ B := by omega
  have HK : Hid (∀ W, w6.grownBy W (some (w.heap.size + 1)) → W.cell? ⟨B, 0, none⟩ = some (.int .i64 r) ∧ W.cell? ⟨B, 1, none⟩ = some (.slice uo l.length uc)) := fun W hg => ⟨(HE.out W hg).c0, (HE.out W hg).c1⟩
  have HKP : Hid (∀ (W : World) (x y : Value), w6.grownBy W (some (w.heap.size + 1)) → ((W.setCell ⟨w.heap.size, 0, none⟩ x).setCell ⟨w.heap.size, 1, none⟩ y).cell? ⟨B, 0, none⟩ = some (.int .i64 r) ∧ ((W.setCell ⟨w.heap.size, 0, none⟩ x).setCell ⟨w.heap.size, 1, none⟩ y).cell? ⟨B, 1, none⟩ = some (.slice uo l.length uc)) := fun W x y hg =>
    ⟨((World.cell?_setCell_far _ ⟨w.heap.size, 1, none⟩ _ _ hAB).trans (World.cell?_setCell_far _ ⟨w.heap.size, 0, none⟩ _ _ hAB)).trans (HK.out W hg).1, ((World.cell?_setCell_far _ ⟨w.heap.size, 1, none⟩ _ _ hAB).trans (World.cell?_setCell_far _ ⟨w.heap.size, 0, none⟩ _ _ hAB)).trans (HK.out W hg).2⟩
  have HX : Hid (∀ W, w6.grownBy W (some (w.heap.size + 1)) → (W.cell? ⟨w.heap.size, 0, none⟩ = some (.int .i64 0) ∧ W.cell? ⟨w.heap.size, 1, none⟩ = some (.slice none 0 0)) ∧ W.frozen? ⟨w.heap.size, 0, none⟩ = false ∧ W.frozen? ⟨w.heap.size, 1, none⟩ = false) := fun W hg => by
    have h9 := (hg.block w.heap.size (by omega) (fun e => by have := Option.some.inj e; omega)).trans hx6
    exact ⟨⟨cell_of_row W _ 0 _ _ (0, 0) h9, cell_of_row W _ 1 _ _ (0, 0) h9⟩, Lib.frozen_of_heap h9 0, Lib.frozen_of_heap h9 1⟩
  have HF : Hid (∀ (W W3 : World) (k0 k1 : Value), w6.grownBy W (some (w.heap.size + 1)) → W3 = (W.setCell ⟨w.heap.size, 0, none⟩ k0).setCell ⟨w.heap.size, 1, none⟩ k1 → OwnI W3 w.heap.size (.slice uo l.length uc) l ∧ (∀ u (L : List Int), W.ownsRow (w.heap.size + 1) 2 1 u L.length (cellsInt64S L) → W3.ownsRow w.heap.size 2 1 u L.length (cellsInt64S L)) ∧ Below w.heap.size w W3 ∧ W3.heap[w.heap.size]? = some (.cells #[k0, k1] 33 (0, 0))) := fun W W3 k0 k1 hg hW => by
    have h9 := (hg.block w.heap.size (by omega) (fun e => by have := Option.some.inj e; omega)).trans hx6
    obtain ⟨a, b, c, d⟩ := res_fin (w0 := w) h9 hW (hB6.grown hg hB6.size (fun q hq => by cases hq; omega))
    exact ⟨a _ _ (own_lower (HE.out W hg).own (by omega)), b, c, d⟩
  have hgd : w6.grownBy w6.drew (some (w.heap.size + 1)) := grown_drew (World.grownBy.refl _ _)
  have hsd : St w6.drew (w.heap.size + 1) (.slice ao bs.length cap) bs := hst6
  have hcd : w.heap.size + 1 < w6.drew.heap.size := hcb6
  obtain ⟨⟨x0, x1⟩, z0, z1⟩ := HX.out _ hgd
  clear hst6 hsh6 hB6 hx6 hrd
  go_wp2_with fail
  go_region_held (fun W : World => W.cell? ⟨B, 0, none⟩ = some (.int .i64 r) ∧ W.cell? ⟨B, 1, none⟩ = some (.slice uo l.length uc)) (first | exact HK.out _ hgd | exact HK.out _ hg8 | exact HK.out _ hg7 | exact HKP.out _ _ _ hg8 | go_keep) (first
    | (go_at_call 30; refine (HDG.out _ _ _ hg7 hst7 hob7 hcd).mono ?_; rintro e w8 ⟨vm, ds, rfl, hd8, hr8, hg8⟩; obtain ⟨⟨xx0, xx1⟩, zz0, zz1⟩ := HX.out _ hg8)
    | (go_at_call 31; refine (HBL.out _ hgd).mono ?_; rintro e w7 ⟨vb7, rfl, hob7, hg7, hb7⟩; have hst7 := st_below hsd (hb7.mono hcd)))
  all_goals
    go_wp2
    have hrr9 := HRD.out
    refine bodyPost_ret (results_cell_rowT3 (by rfl) _ _ w.heap.size 33 _ (0, 0) _ rfl (HF.out _ _ _ _ hg8 rfl).2.2.2 Try.underlying33 rfl shelf_size) rfl ?_
    first
      | exact ⟨r, _, l, _, _, ds, rfl, HAN.out, by omega, hd8, (HF.out _ _ _ _ hg8 rfl).1, (HF.out _ _ _ _ hg8 rfl).2.1 _ _ hr8, (HF.out _ _ _ _ hg8 rfl).2.2.1⟩
      | exact ⟨r, _, l, _, _, ds, rfl, HAN.out, by omega, hd8, (HF.out _ _ _ _ hg8 rfl).1, (HF.out _ _ _ _ hg8 rfl).2.1 _ _ hr8, (HF.out _ _ _ _ hg8 rfl).2.2.1.drew⟩
end Go.Proofs.Ytfoncmeplofedaf
