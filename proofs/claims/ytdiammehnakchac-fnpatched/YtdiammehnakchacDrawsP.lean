/- CONTRACTS: what is drawn for blocks: spec.l1DrawLong, l1From, DrawBlocks, DrawDelta, DrawPatched: whatever the code, some small texts and a size. -/
import Derived.Test.YtdiammehnakchacDraw
import Derived.Test.YtdiammehnakchacBend
import Derived.Test.YtdiammehnakchacDelS
namespace Go.Proofs.Ytdiammehnakchac
open Go.RowKit
set_option linter.unusedVariables false
theorem then_normalP (K : Act → World → Prop) (Q : Exit → Act → World → Prop) (a : Act) (w : World) : Exit.then K Q .normal a w = K a w := rfl
theorem codeP {bs : List Int} (h : Bytes bs) : ∀ j, 0 ≤ bs.getD j 0 ∧ bs.getD j 0 ≤ 255 := bytes_get h
theorem tab_cell {w2 w3 : World} {Tb : Array Value} {t : TypeId} {cb j : Nat} {u : Value} (hg : (w2.alloc (.cells Tb t)).grownBy w3 (some cb)) (hcb : cb < w2.heap.size) (h : Tb[j]? = some u) : w3.cell? ⟨w2.heap.size, j, none⟩ = some u := by
  rw [World.cell?_of_block (w := w2.alloc (.cells Tb t)) (hg.block w2.heap.size (by simp) (by simp; omega)), World.cell?_alloc_at _ _ _ _ rfl]
  exact h
theorem tab_cellD {w2 w3 : World} {Tb : Array Value} {t : TypeId} {cb j : Nat} {u : Value} (hg : ((w2.alloc (.cells Tb t)).drew).grownBy w3 (some cb)) (hcb : cb < w2.heap.size) (h : Tb[j]? = some u) : w3.cell? ⟨w2.heap.size, j, none⟩ = some u := by
  have e : w3.heap[w2.heap.size]? = (w2.alloc (.cells Tb t)).heap[w2.heap.size]? := hg.block w2.heap.size (by show w2.heap.size < (w2.alloc (.cells Tb t)).heap.size; rw [World.size_alloc]; omega) (by simp; omega)
  rw [World.cell?_of_block (w := w2.alloc (.cells Tb t)) e, World.cell?_alloc_at _ _ _ _ rfl]
  exact h
/-- some part of a longer text -/
abbrev longC (t : ByteArray) : Array Value := #[.string ⟨#[97, 98, 99, 97, 98, 99, 97, 98]⟩, .string ⟨#[99, 101, 108, 108, 97, 114]⟩, .string ⟨#[115, 116, 111, 110, 101]⟩, .string t, .string ⟨#[97, 97, 97, 97, 97, 97, 97, 97, 97, 97]⟩, .string ⟨#[1, 0, 120]⟩]
theorem longC_get (t : ByteArray) (ht : t.size ≤ 10) (j : Nat) (h : j < 6) : ∃ z : ByteArray, (longC t)[j]? = some (.string z) ∧ z.size ≤ 10 := by
  rcases (show j = 0 ∨ j = 1 ∨ j = 2 ∨ j = 3 ∨ j = 4 ∨ j = 5 by omega) with rfl | rfl | rfl | rfl | rfl | rfl
  · exact ⟨_, rfl, by decide⟩
  · exact ⟨_, rfl, by decide⟩
  · exact ⟨_, rfl, by decide⟩
  · exact ⟨_, rfl, ht⟩
  · exact ⟨_, rfl, by decide⟩
  · exact ⟨_, rfl, by decide⟩

set_option maxHeartbeats 2000000 in
set_option maxRecDepth 100000 in
theorem drawLong_any (cb : Nat) (v : Value) (bs : List Int) (w : World) (hst : St w cb v bs) (hl : bs.length ≤ 4096) (hz : ∀ j, 0 ≤ bs.getD j 0 ∧ bs.getD j 0 ≤ 255) :
    Calls Try.prog 20 #[.pointer (some ⟨cb, 0, none⟩)] w fun e w' => ∃ s : ByteArray, e = .returned (.string s) ∧ s.size ≤ 60 ∧ St w' cb v bs ∧ w.grownBy w' (some cb) := by
  have hcb := st_lt hst
  have HZ : Hid (∀ j, 0 ≤ bs.getD j 0 ∧ bs.getD j 0 ≤ 255) := hz
  clear hz
  go_enter Try.func20, Try.ntmps20
  go_wp2_with fail
  refine (below_any cb v bs 6 w hst hl HZ.out (by omega)).mono ?_
  rintro e w1 ⟨r, rfl, hr0, hr1, _, hst1, hg1⟩
  have hr2 := hr1 (by omega)
  have HST1 : Hid (St w1 cb v bs) := hst1
  clear hst hst1 hr1
  go_wp2
  go_loopw [3, 4] (fun q n wr => ∃ (m : Int) (s : ByteArray), n = .int .i64 m ∧ q = .string s ∧ 0 ≤ m ∧ (s.size : Int) + 10 * m ≤ 60 ∧ Hid (St wr cb v bs) ∧ w.grownBy wr (some cb)) (fun _ n _ => (intOf n).toNat)
  case atStart => exact ⟨1 + r, ⟨#[]⟩, rfl, rfl, by omega, by show ((0 : Nat) : Int) + _ ≤ _; omega, HST1, hg1⟩
  case round =>
    obtain ⟨m, s, rfl, rfl, hm0, hsm, hst2, hg2⟩ := hrel
    have hs2 := hg2.size
    clear hg1 HST1
    by_cases hlt : 0 < m
    · go_wp2_with fail
      refine (drawText_any cb v bs 9 _ hst2.out hl HZ.out (by omega) (by omega)).mono ?_
      rintro e w3 ⟨t, rfl, ht, hst3, hg3⟩
      have hg3w := grown_trans hg2 hg3
      have hs3 := hg3w.size
      have hst3' := st_below hst3 ((Below.refl (cb + 1) w3).alloc (by omega) (.cells (longC t) 9))
      clear hst2 hg2 hg3 hst3
      go_wp2_with fail
      refine (below_any cb v bs 6 _ hst3' hl HZ.out (by omega)).mono ?_
      rintro e w4 ⟨q, rfl, hq0, hq1, _, hst4, hg4⟩
      have hq2 := hq1 (by omega)
      obtain ⟨q, rfl⟩ := Int.eq_ofNat_of_zero_le hq0
      obtain ⟨z, hzq, hzs⟩ := longC_get t (by omega) q (by omega)
      have hcell := tab_cell hg4 (by omega) hzq
      have hg4w := grown_trans hg3w (grown_trans (World.grownBy_alloc w3 _ _) hg4)
      have HST4 : Hid (St w4 cb v bs) := hst4
      have hadd : ∀ W : World, (Op.stringOp .add s z).run Try.prog W = .ok (.string (s ++ z)) W := fun W => run_string_add_sum W _ _ (by omega)
      have hsz : ((s ++ z).size : Int) + 10 * (m - 1) ≤ 60 := by rw [ByteArray.size_append]; omega
      clear hst3' hq1 hg4 hg3w hst4 hzq
      go_wp2
      go_roundw
      case rel => exact ⟨m - 1, s ++ z, by go_num, rfl, by omega, hsz, HST4, hg4w⟩
      case measure => simp [intOf]; omega
    · have hst0 := hst2.out
      clear hst2
      go_wp2
      go_ret
      exact ⟨s, rfl, by omega, hst0, hg2⟩

theorem from_any (cb : Nat) (v : Value) (bs : List Int) (w : World) (hst : St w cb v bs) (hl : bs.length ≤ 4096) (hz : ∀ j, 0 ≤ bs.getD j 0 ∧ bs.getD j 0 ≤ 255) :
    Calls Try.prog 28 #[.pointer (some ⟨cb, 0, none⟩), .int .i64 (-2), .int .i64 9] w fun e w' => ∃ r : Int, e = .returned (.int .i64 r) ∧ -2 ≤ r ∧ r ≤ 9 ∧ St w' cb v bs ∧ w.grownBy w' (some cb) := by
  go_enter Try.func28, Try.ntmps28
  go_wp2_with fail
  refine (below_any cb v bs 12 w hst hl hz (by omega)).mono ?_
  rintro e w1 ⟨r, rfl, hr0, hr1, _, hst1, hg1⟩
  have hr2 := hr1 (by omega)
  clear hst hz hr1
  go_wp2
  go_ret
  exact ⟨-2 + r, rfl, by omega, by omega, hst1, hg1⟩
theorem results_tmpP3 {fn : Func} {t u x : Tmp} (h : fn.results = #[.tmp t, .tmp u, .tmp x]) (tmps : Array Value) (P : Program) (w : World) :
    (results fn tmps).run P w = .ok (.tuple #[tmps.getD t undef, tmps.getD u undef, tmps.getD x undef]) w := by
  simp [results, h]
abbrev tabB : Array Value := #[.int .i64 0, .int .i64 1, .int .i64 3, .int .i64 4, .int .i64 100, .int .i64 101, .int .i64 (-1), .int .i64 5]
theorem tabB_get (r : Nat) (h : r < 8) : ∃ x : Int, tabB[r]? = some (.int .i64 x) ∧ -1 ≤ x ∧ x ≤ 101 := by
  rcases (show r = 0 ∨ r = 1 ∨ r = 2 ∨ r = 3 ∨ r = 4 ∨ r = 5 ∨ r = 6 ∨ r = 7 by omega) with rfl | rfl | rfl | rfl | rfl | rfl | rfl | rfl <;> exact ⟨_, rfl, by omega, by omega⟩
abbrev tabD : Array Value := #[.int .i64 1, .int .i64 2, .int .i64 3, .int .i64 4, .int .i64 4, .int .i64 0, .int .i64 101]
theorem tabD_get (r : Nat) (h : r < 7) : ∃ x : Int, tabD[r]? = some (.int .i64 x) ∧ 0 ≤ x ∧ x ≤ 101 := by
  rcases (show r = 0 ∨ r = 1 ∨ r = 2 ∨ r = 3 ∨ r = 4 ∨ r = 5 ∨ r = 6 by omega) with rfl | rfl | rfl | rfl | rfl | rfl | rfl <;> exact ⟨_, rfl, by omega, by omega⟩
set_option maxHeartbeats 2000000 in
set_option maxRecDepth 100000 in
theorem drawBlocks_any (va : Value) (bs : List Int) (w : World) (ha : Rd w va (cellsByteS bs)) (hl : bs.length ≤ 4096) (hz : Bytes bs) :
    Calls Try.prog 9 #[va] w fun e w' => ∃ (s : ByteArray) (n : Int), e = .returned (.tuple #[.string s, .int .i64 n]) ∧ s.size ≤ 60 ∧ -1 ≤ n ∧ n ≤ 101 ∧ Below w.heap.size w w' := by
  have HZ : Hid (∀ j, 0 ≤ bs.getD j 0 ∧ bs.getD j 0 ≤ 255) := codeP hz
  clear hz
  go_enter Try.func9, Try.ntmps9
  go_wp2_with fail
  refine (new_any va bs w ha hl HZ.out).mono ?_
  rintro e w1 ⟨rfl, hst1, hb1, hs1⟩
  clear ha
  go_wp2_with fail
  refine (drawLong_any w.heap.size va bs w1 hst1 hl HZ.out).mono ?_
  rintro e w2 ⟨s, rfl, hs, hst2, hg2⟩
  have hb2 : Below w.heap.size w w2 := hb1.grown hg2 hb1.size (fun k hk => by cases hk; exact Nat.le_refl _)
  have hs2 := hg2.size
  have HSTd : Hid (St w2.drew w.heap.size va bs) := hst2
  have HSTa : Hid (St (w2.alloc (.cells tabB 2)).drew w.heap.size va bs) := st_below hst2 ((Below.refl (w.heap.size + 1) w2).alloc (by omega) _).drew
  have hBd : Below w.heap.size w w2.drew := hb2.drew
  have hBa : Below w.heap.size w (w2.alloc (.cells tabB 2)).drew := (hb2.alloc hb2.size _).drew
  clear hst1 hst2 hb1 hg2
  go_wp2
  go_region_with (first
    | (go_at_call 24; refine (below_any w.heap.size va bs 8 _ HSTd.out hl HZ.out (by omega)).mono ?_; rintro e w4 ⟨r, rfl, hr0, hr1, _, hst4, hg4⟩; have hr2 := hr1 (by omega); obtain ⟨r, rfl⟩ := Int.eq_ofNat_of_zero_le hr0; obtain ⟨x, hx, hx0, hx1⟩ := tabB_get r (by omega); have hB4 : Below w.heap.size w w4 := hBd.grown hg4 hBd.size (fun k hk => by cases hk; exact Nat.le_refl _); have hc4 : (w4.alloc (.cells tabB 2)).cell? ⟨w4.heap.size, r, none⟩ = some (.int .i64 x) := ((World.cell?_alloc_at _ _ _ _ rfl).trans hx); clear hst4 hg4 hr1)
    | (go_at_call 24; refine (below_any w.heap.size va bs 8 _ HSTa.out hl HZ.out (by omega)).mono ?_; rintro e w4 ⟨r, rfl, hr0, hr1, _, hst4, hg4⟩; have hr2 := hr1 (by omega); obtain ⟨r, rfl⟩ := Int.eq_ofNat_of_zero_le hr0; obtain ⟨x, hx, hx0, hx1⟩ := tabB_get r (by omega); have hB4 : Below w.heap.size w w4 := hBa.grown hg4 hBa.size (fun k hk => by cases hk; exact Nat.le_refl _); have hc4 := tab_cellD (w2 := w2) hg4 (by omega) hx; clear hst4 hg4 hr1))
  all_goals
    rw [then_normalP]
    clear HSTd HSTa hBd hBa hc4
    go_wp2
    go_ret2
    exact ⟨s, x, rfl, hs, hx0, hx1, by first | exact hB4 | exact hB4.alloc hB4.size _⟩
set_option maxHeartbeats 2000000 in
set_option maxRecDepth 100000 in
theorem drawDelta_any (va : Value) (bs : List Int) (w : World) (ha : Rd w va (cellsByteS bs)) (hl : bs.length ≤ 4096) (hz : Bytes bs) :
    Calls Try.prog 5 #[va] w fun e w' => ∃ (a b : ByteArray) (n : Int), e = .returned (.tuple #[.string a, .string b, .int .i64 n]) ∧ a.size ≤ 60 ∧ b.size ≤ 70 ∧ 0 ≤ n ∧ n ≤ 101 ∧ Below w.heap.size w w' := by
  have HZ : Hid (∀ j, 0 ≤ bs.getD j 0 ∧ bs.getD j 0 ≤ 255) := codeP hz
  clear hz
  go_enter Try.func5, Try.ntmps5
  go_wp2_with fail
  refine (new_any va bs w ha hl HZ.out).mono ?_
  rintro e w1 ⟨rfl, hst1, hb1, hs1⟩
  clear ha
  go_wp2_with fail
  refine (drawLong_any w.heap.size va bs w1 hst1 hl HZ.out).mono ?_
  rintro e w2 ⟨s, rfl, hs, hst2, hg2⟩
  have hb2 : Below w.heap.size w w2 := hb1.grown hg2 hb1.size (fun k hk => by cases hk; exact Nat.le_refl _)
  clear hst1 hb1 hg2 hs1
  go_wp2_with fail
  refine (drawText_any w.heap.size va bs 3 w2 hst2 hl HZ.out (by omega) (by omega)).mono ?_
  rintro e w3 ⟨t, rfl, ht, hst3, hg3⟩
  have hb3 : Below w.heap.size w w3 := hb2.grown hg3 hb2.size (fun k hk => by cases hk; exact Nat.le_refl _)
  have hadd1 : ∀ W : World, (Op.stringOp .add t s).run Try.prog W = .ok (.string (t ++ s)) W := fun W => run_string_add_sum W _ _ (by omega)
  have hts : (t ++ s).size ≤ 63 := by rw [ByteArray.size_append]; omega
  clear hst2 hb2 hg3
  go_wp2_with fail
  refine (drawText_any w.heap.size va bs 3 w3 hst3 hl HZ.out (by omega) (by omega)).mono ?_
  rintro e w4 ⟨u, rfl, hu, hst4, hg4⟩
  have hb4 : Below w.heap.size w w4 := hb3.grown hg4 hb3.size (fun k hk => by cases hk; exact Nat.le_refl _)
  obtain ⟨q, hq⟩ : ∃ q, q = t ++ s := ⟨_, rfl⟩
  rw [← hq] at hts hadd1 ⊢
  have hadd2 : ∀ W : World, (Op.stringOp .add q u).run Try.prog W = .ok (.string (q ++ u)) W := fun W => run_string_add_sum W _ _ (by omega)
  have hqs : (q ++ u).size ≤ 66 := by rw [ByteArray.size_append]; omega
  clear hst3 hb3 hg4 hq hadd1 ht hts
  go_wp2_with fail
  refine (once_any w.heap.size va bs 2 w4 hst4 hl HZ.out (by omega)).mono ?_
  rintro e w5 ⟨o, rfl, hst5, hg5⟩
  have hb5 : Below w.heap.size w w5 := hb4.grown hg5 hb4.size (fun k hk => by cases hk; exact Nat.le_refl _)
  obtain ⟨y, hy⟩ : ∃ y, y = q ++ u := ⟨_, rfl⟩
  rw [← hy] at hqs ⊢
  clear hst4 hb4 hg5 hadd2 hy hu
  cases o with
  | false =>
    have hs6 := hb5.size
    have hlt := st_lt hst5
    have HSTd : Hid (St w5.drew w.heap.size va bs) := hst5
    have HSTa : Hid (St (w5.alloc (.cells tabD 2)).drew w.heap.size va bs) := st_below hst5 ((Below.refl (w.heap.size + 1) w5).alloc (by omega) _).drew
    have hBd : Below w.heap.size w w5.drew := hb5.drew
    have hBa : Below w.heap.size w (w5.alloc (.cells tabD 2)).drew := (hb5.alloc hb5.size _).drew
    clear hst5 hb5
    go_wp2
    go_region_with (first
      | (go_at_call 24; refine (below_any w.heap.size va bs 7 _ HSTd.out hl HZ.out (by omega)).mono ?_; rintro e w7 ⟨r, rfl, hr0, hr1, _, hst7, hg7⟩; have hr2 := hr1 (by omega); obtain ⟨r, rfl⟩ := Int.eq_ofNat_of_zero_le hr0; obtain ⟨x, hx, hx0, hx1⟩ := tabD_get r (by omega); have hB7 : Below w.heap.size w w7 := hBd.grown hg7 hBd.size (fun k hk => by cases hk; exact Nat.le_refl _); have hc7 : (w7.alloc (.cells tabD 2)).cell? ⟨w7.heap.size, r, none⟩ = some (.int .i64 x) := ((World.cell?_alloc_at _ _ _ _ rfl).trans hx); clear hst7 hg7 hr1)
      | (go_at_call 24; refine (below_any w.heap.size va bs 7 _ HSTa.out hl HZ.out (by omega)).mono ?_; rintro e w7 ⟨r, rfl, hr0, hr1, _, hst7, hg7⟩; have hr2 := hr1 (by omega); obtain ⟨r, rfl⟩ := Int.eq_ofNat_of_zero_le hr0; obtain ⟨x, hx, hx0, hx1⟩ := tabD_get r (by omega); have hB7 : Below w.heap.size w w7 := hBa.grown hg7 hBa.size (fun k hk => by cases hk; exact Nat.le_refl _); have hc7 := tab_cellD (w2 := w5) hg7 hlt hx; clear hst7 hg7 hr1))
    all_goals
      rw [then_normalP]
      clear HSTd HSTa hBd hBa hc7
      go_wp2
      exact bodyPost_ret (results_tmpP3 rfl _ _ _) rfl ⟨s, y, x, rfl, hs, by omega, hx0, hx1, by first | exact hB7 | exact hB7.alloc hB7.size _⟩
  | true =>
    go_wp2_with fail
    refine (bend_any w.heap.size va bs y ⟨#[97, 98, 99]⟩ w5 hst5 hl HZ.out (by omega) (by decide) (by decide)).mono ?_
    rintro e w6 ⟨z, rfl, hzs, hst6, hg6⟩
    have hb6 : Below w.heap.size w w6 := hb5.grown hg6 hb5.size (fun k hk => by cases hk; exact Nat.le_refl _)
    have hs6 := hb6.size
    have hlt := st_lt hst6
    have HSTd : Hid (St w6.drew w.heap.size va bs) := hst6
    have HSTa : Hid (St (w6.alloc (.cells tabD 2)).drew w.heap.size va bs) := st_below hst6 ((Below.refl (w.heap.size + 1) w6).alloc (by omega) _).drew
    have hBd : Below w.heap.size w w6.drew := hb6.drew
    have hBa : Below w.heap.size w (w6.alloc (.cells tabD 2)).drew := (hb6.alloc hb6.size _).drew
    clear hst5 hb5 hst6 hb6 hg6
    go_wp2
    go_region_with (first
      | (go_at_call 24; refine (below_any w.heap.size va bs 7 _ HSTd.out hl HZ.out (by omega)).mono ?_; rintro e w7 ⟨r, rfl, hr0, hr1, _, hst7, hg7⟩; have hr2 := hr1 (by omega); obtain ⟨r, rfl⟩ := Int.eq_ofNat_of_zero_le hr0; obtain ⟨x, hx, hx0, hx1⟩ := tabD_get r (by omega); have hB7 : Below w.heap.size w w7 := hBd.grown hg7 hBd.size (fun k hk => by cases hk; exact Nat.le_refl _); have hc7 : (w7.alloc (.cells tabD 2)).cell? ⟨w7.heap.size, r, none⟩ = some (.int .i64 x) := ((World.cell?_alloc_at _ _ _ _ rfl).trans hx); clear hst7 hg7 hr1)
      | (go_at_call 24; refine (below_any w.heap.size va bs 7 _ HSTa.out hl HZ.out (by omega)).mono ?_; rintro e w7 ⟨r, rfl, hr0, hr1, _, hst7, hg7⟩; have hr2 := hr1 (by omega); obtain ⟨r, rfl⟩ := Int.eq_ofNat_of_zero_le hr0; obtain ⟨x, hx, hx0, hx1⟩ := tabD_get r (by omega); have hB7 : Below w.heap.size w w7 := hBa.grown hg7 hBa.size (fun k hk => by cases hk; exact Nat.le_refl _); have hc7 := tab_cellD (w2 := w6) hg7 hlt hx; clear hst7 hg7 hr1))
    all_goals
      rw [then_normalP]
      clear HSTd HSTa hBd hBa hc7
      go_wp2
      exact bodyPost_ret (results_tmpP3 rfl _ _ _) rfl ⟨s, z, x, rfl, hs, by omega, hx0, hx1, by first | exact hB7 | exact hB7.alloc hB7.size _⟩
theorem wl_len (out : List Bl) (t : ByteArray) : (withT out t).length ≤ out.length + 1 := by
  unfold withT
  split
  · omega
  · rw [List.length_append, List.length_singleton]; omega
theorem dG_lenP {old fresh : ByteArray} {n : Nat} (hn : 1 ≤ n) : ∀ (m fr p : Nat) (out : List Bl), fresh.size - p ≤ m → p ≤ fresh.size → out.length ≤ 2 * p → (dG old fresh n fr p out).length ≤ 2 * fresh.size + 2 := by
  intro m
  induction m with
  | zero =>
    intro fr p out hm hp h
    rw [dG_end (by omega)]
    have := wl_len out (fresh.extract fr fresh.size)
    omega
  | succ m ih =>
    intro fr p out hm hp h
    by_cases h1 : p + n ≤ fresh.size
    · cases hx : foundT old fresh n p with
      | some k =>
        rw [dG_hit hn hx]
        have := wl_len out (fresh.extract fr p)
        exact ih _ _ _ (by omega) h1 (by rw [List.length_append, List.length_singleton]; omega)
      | none =>
        rw [dG_miss hn h1 hx]
        exact ih _ _ _ (by omega) (by omega) (by omega)
    · rw [dG_end h1]
      have := wl_len out (fresh.extract fr fresh.size)
      omega
theorem delta_lenP (old fresh : ByteArray) (n : Int) : (deltaT old fresh n).length ≤ 2 * fresh.size + 2 := by
  unfold deltaT
  split
  · rename_i h
    exact dG_lenP (old := old) (fresh := fresh) (n := n.toNat) (by have := h.1.1; omega) fresh.size 0 0 [] (by omega) (Nat.zero_le _) (Nat.zero_le _)
  · exact Nat.zero_le _
theorem sent_mem {l : List Bl} {p : Bl} (h : p ∈ l) : p.2.size ≤ sentT l := by
  induction l with
  | nil => cases h
  | cons q r ih =>
    rw [sentT_cons]
    rcases List.mem_cons.1 h with h | h
    · rw [h]; omega
    · have := ih h; omega
set_option maxHeartbeats 2000000 in
set_option maxRecDepth 100000 in
theorem drawPatched_any (va : Value) (bs : List Int) (w : World) (ha : Rd w va (cellsByteS bs)) (hl : bs.length ≤ 4096) (hz : Bytes bs) :
    Calls Try.prog 7 #[va] w fun e w' => ∃ (a : ByteArray) (v : Value) (l : List Bl) (n : Int), e = .returned (.tuple #[.string a, v, .int .i64 n]) ∧ a.size ≤ 60 ∧ l.length ≤ 150 ∧ (∀ p ∈ l, p.2.size ≤ 1048576) ∧ RdB w' v l ∧ Below w.heap.size w w' := by
  have HZ : Hid (∀ j, 0 ≤ bs.getD j 0 ∧ bs.getD j 0 ≤ 255) := codeP hz
  have HDD : Hid (∀ W, Below w.heap.size w W → Calls Try.prog 5 #[va] W fun e w' => ∃ (a b : ByteArray) (n : Int), e = .returned (.tuple #[.string a, .string b, .int .i64 n]) ∧ a.size ≤ 60 ∧ b.size ≤ 70 ∧ 0 ≤ n ∧ n ≤ 101 ∧ Below W.heap.size W w') := fun W h => drawDelta_any va bs W (rd_below ha h) hl hz
  clear hz
  go_enter Try.func7, Try.ntmps7
  go_wp2_with fail
  refine (new_any va bs w ha hl HZ.out).mono ?_
  rintro e w1 ⟨rfl, hst1, hb1, hs1⟩
  clear ha
  go_wp2_with fail
  refine (HDD.out w1 hb1).mono ?_
  rintro e w2 ⟨a, b, n, rfl, has, hbs, hn0, hn1, hb2⟩
  have hst2 := st_below hst1 (hb2.mono (by omega))
  have hB2 := hb1.trans (hb2.mono hb1.size)
  clear hst1 hb1 hb2 HDD
  go_wp2_with fail
  refine (specDelta_any a b n w2).mono ?_
  rintro e w3 ⟨v, rfl, ho3, hb3⟩
  have hs2 := hB2.size
  have hlt2 := st_lt hst2
  have hst3 := st_below hst2 (hb3.mono (by omega))
  have hs3 := hb3.size
  have hB3 := hB2.trans (hb3.mono hs2)
  have hdl := delta_lenP a b n
  have HSM : Hid (∀ p ∈ deltaT a b n, p.2.size ≤ 1048576) := fun p hp => by
    have h1 := sent_mem hp
    have h2 := sent_delta (old := a) (fresh := b) (n := n)
    omega
  generalize deltaT a b n = D at ho3 hdl HSM
  clear hst2 hB2 hb3
  go_wp2_with fail
  refine (once_any w.heap.size va bs 3 w3 hst3 hl HZ.out (by omega)).mono ?_
  rintro e w4 ⟨o, rfl, hst4, hg4⟩
  have hB4 : Below w.heap.size w w4 := hB3.grown hg4 hB3.size (fun k hk => by cases hk; exact Nat.le_refl _)
  have ho4 := owns_grown ho3 hg4 (fun k hk h => by cases hk; have := (ho3.lt _ h).1; omega)
  have hs4 := hg4.size
  clear hst3 ho3 hg4
  cases o with
  | false =>
    have HR := Lib.hid (rdB_owns ho4)
    clear hst4 ho4
    go_wp2
    exact bodyPost_ret (results_tmpP3 rfl _ _ _) rfl ⟨a, _, D, n, rfl, has, by omega, HSM.out, HR.out, hB4⟩
  | true =>
    go_wp2_with fail
    refine (from_any w.heap.size va bs w4 hst4 hl HZ.out).mono ?_
    rintro e w5 ⟨r, rfl, hr0, hr1, hst5, hg5⟩
    have hB5 : Below w.heap.size w w5 := hB4.grown hg5 hB4.size (fun k hk => by cases hk; exact Nat.le_refl _)
    have ho5 := owns_grown ho4 hg5 (fun k hk h => by cases hk; have := (ho4.lt _ h).1; omega)
    have hs5 := hg5.size
    clear hst4 ho4 hg5 hB4
    go_wp2_with fail
    refine (drawText_any w.heap.size va bs 1 w5 hst5 hl HZ.out (by omega) (by omega)).mono ?_
    rintro e w6 ⟨t, rfl, ht, hst6, hg6⟩
    have hB6 : Below w.heap.size w w6 := hB5.grown hg6 hB5.size (fun k hk => by cases hk; exact Nat.le_refl _)
    have ho6 := owns_grown ho5 hg6 (fun k hk h => by cases hk; have := (ho5.lt _ h).1; omega)
    have hs6 := hg6.size
    have hr6 := rdB_one w6 (r, t) 54
    have hoa := ho6.alloc (.cells #[.int .i64 r, .string t] 54)
    have hba := hB6.alloc hB6.size (.cells #[.int .i64 r, .string t] 54)
    clear hst5 ho5 hg6 hB5 hst6 ho6 hB6
    go_wp2_with (at_builtin; refine wpList_append_bits rfl _ _ rfl w2.heap.size _ D [(r, t)] _ rfl rfl hoa hr6 (by rw [List.length_singleton]; omega) (by rw [World.size_alloc]; omega) ?_)
    intro v7 w7 ho7 hg7
    have HB7 := Lib.hid (hba.grown hg7 (by rw [World.size_alloc]; omega) (fun k hk => by have := (hoa.lt k hk).1; omega))
    have HR7 : Hid (RdB w7 v7 (D ++ [(r, t)])) := rdB_owns (by rw [List.length_append]; exact ho7)
    have hall : Hid (∀ p ∈ D ++ [(r, t)], p.2.size ≤ 1048576) := fun p hp => by
      rcases List.mem_append.1 hp with h | h
      · exact HSM.out p h
      · rw [List.mem_singleton.1 h]
        show t.size ≤ _
        omega
    have hl7 : (D ++ [(r, t)]).length ≤ 150 := by rw [List.length_append, List.length_singleton]; omega
    clear ho7 hg7 hoa hba hr6
    go_wp2
    exact bodyPost_ret (results_tmpP3 rfl _ _ _) rfl ⟨a, _, D ++ [(r, t)], n, rfl, has, hl7, hall.out, HR7.out, HB7.out⟩
end Go.Proofs.Ytdiammehnakchac
