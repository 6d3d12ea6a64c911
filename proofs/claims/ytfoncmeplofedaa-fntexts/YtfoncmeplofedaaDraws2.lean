/- CONTRACTS: spec.l1DrawList, DrawNumbers, DrawReadNumbers: whatever the code, some list, some text. -/
import Derived.Test.YtfoncmeplofedaaDraws1
namespace Go.Proofs.Ytfoncmeplofedaa
open Go.RowKit

abbrev three : Array Value := #[.int .i64 (-1), .int .i64 1099511627776, .int .i64 1099511627777]
theorem three_get (j : Nat) (h : j < 3) : ∃ z, three[j]? = some (.int .i64 z) := by
  rcases (show j = 0 ∨ j = 1 ∨ j = 2 by omega) with rfl | rfl | rfl <;> exact ⟨_, rfl⟩

theorem below_of_own {w2 w3 : World} {row : Option Nat} {cb B : Nat} (hg : w2.grownBy w3 row) (hcb : cb < w2.heap.size) (hr : ∀ g, row = some g → B ≤ g) (hB : cb < B) : Below (cb + 1) w2 w3 :=
  ⟨hg.os, hg.tape, hg.output, hg.size, fun k hk => hg.block k (by omega) (fun e => by have := hr k e.symm; omega)⟩

set_option maxHeartbeats 2000000 in
set_option maxRecDepth 100000 in
theorem drawList_any (cb : Nat) (v : Value) (bs : List Int) (w : World) (hst : St w cb v bs) (hl : bs.length ≤ 4096) (hz : ∀ j, 0 ≤ bs.getD j 0 ∧ bs.getD j 0 ≤ 255) :
    Calls Try.prog 69 #[.pointer (some ⟨cb, 0, none⟩)] w fun e w' => ∃ (v' : Value) (xs : List Int), e = .returned v' ∧ xs.length ≤ 300 ∧ w'.ownsRow w.heap.size 2 1 v' xs.length (cellsInt64S xs) ∧ St w' cb v bs ∧ w.grownBy w' (some cb) := by
  obtain ⟨i0, hi, hz0, hz1, hz2⟩ := info_parts Try.info64
  have hcb := st_lt hst
  have hst0 : St (w.alloc (.cells #[] 2)) cb v bs := st_below hst ((Below.refl _ _).alloc (by omega) _)
  have HZ : Hid (∀ j, 0 ≤ bs.getD j 0 ∧ bs.getD j 0 ≤ 255) := hz
  clear hz
  go_enter Try.func69, Try.ntmps69
  go_wp2_with fail
  refine (below_any cb v bs 5 _ hst0 hl HZ.out (by omega)).mono ?_
  rintro e w1 ⟨n, rfl, hn0, hn1, _, hst1, hg1⟩
  have hg1w : w.grownBy w1 (some cb) := grown_trans (World.grownBy_alloc w _ _) hg1
  have hmade : w1.ownsRow w.heap.size 2 1 (.slice (some ⟨w.heap.size, 0, none⟩) 0 0) 0 (cellsInt64S []) := owns_grown (World.ownsRow_lit w #[] 0 (Nat.le_refl _) (Nat.zero_le _) rfl) hg1 (fun k hk h => by cases hk; simp [Value.ownBlock] at h; omega)
  have hnm : n ≤ 5 := by have := hn1 (by omega); omega
  have HST1 : Hid (St w1 cb v bs) := hst1
  clear hst hst0 hst1 hn1 hg1
  go_wp2
  go_loopw [3, 4] (fun b q wr => ∃ (m : Int) (acc : List Int), q = .int .i64 m ∧ 0 ≤ m ∧ (acc.length : Int) + m ≤ 5 ∧ wr.ownsRow w.heap.size 2 1 b acc.length (cellsInt64S acc) ∧ Hid (St wr cb v bs) ∧ w.grownBy wr (some cb)) (fun _ q _ => (intOf q).toNat)
  case atStart => exact ⟨n, [], rfl, hn0, by simp; omega, hmade, HST1, hg1w⟩
  case round =>
    obtain ⟨m, acc, rfl, hm0, hm1, ho, hst2, hg2⟩ := hrel
    have hs := hg2.size
    clear hmade hg1w
    by_cases hlt : 0 < m
    · go_wp2_with fail
      refine (below_any cb v bs 300 _ hst2.out hl HZ.out (by omega)).mono ?_
      rintro e w2 ⟨r, rfl, hr0, hr1, _, hst3, hg3⟩
      have ho2 := owns_grown ho hg3 (fun k hk h => by cases hk; have := (ho.lt cb h).1; omega)
      have hg3w := grown_trans hg2 hg3
      have hs3 := hg3w.size
      have HST3 : Hid (St w2 cb v bs) := hst3
      clear hst3 hr1 ho hg2 hg3 hst2
      go_wp2_with (at_builtin; refine wpList_append_own _ rfl _ _ 29 rfl w.heap.size 2 i0 (.int .i64 0) 1 8 Try.underlying29 hi hz0 hz1 hz2 rfl (by decide) _ _ _ rfl (ho2.alloc _) ⟨w2.heap.size, 0, none⟩ 1 1 [.int .i64 r] rfl rfl ?c1 ?c2 ?c3 ?c4 ?c5 ?_)
      case c1 => exact one_cell w2 .i64 _ _
      case c2 => exact ints_oneCell .i64 [r]
      case c3 => unfold maxLen; omega
      case c4 => omega
      case c5 => simp; omega
      intro v3 w3 ho3 hg4 _
      have hg5 := grown_trans (World.grownBy_alloc w2 _ _) hg4
      have hg6 : w.grownBy w3 (some cb) := grown_own hg3w hg5 (fun g h => (ho2.lt g h).1)
      have HST4 : Hid (St w3 cb v bs) := st_below HST3.out (below_of_own hg5 (st_lt HST3.out) (fun g h => (ho2.lt g h).1) hcb)
      have ho4 : w3.ownsRow w.heap.size 2 1 v3 (acc ++ [r]).length (cellsInt64S (acc ++ [r])) := by simpa using ho3
      clear ho3 hg4 hg5 ho2 hg3w
      go_wp2
      go_roundw
      case rel => exact ⟨m - 1, acc ++ [r], by go_num, by omega, by rw [List.length_append, List.length_singleton]; omega, ho4, HST4, hg6⟩
      case measure => simp [intOf]; omega
    · go_wp2_with fail
      refine (once_any cb v bs 16 _ hst2.out hl HZ.out (by omega)).mono ?_
      rintro e w2 ⟨b, rfl, hst3, hg3⟩
      have ho2 := owns_grown ho hg3 (fun k hk h => by cases hk; have := (ho.lt cb h).1; omega)
      have hg3w := grown_trans hg2 hg3
      have hs3 := hg3w.size
      have HST3 : Hid (St w2 cb v bs) := hst3
      have hlen : acc.length ≤ 300 := by omega
      clear ho hg2 hg3 hst2 hst3
      cases b with
      | false =>
        go_wp2
        go_ret
        exact ⟨_, acc, rfl, hlen, ho2, HST3.out, hg3w⟩
      | true =>
        go_wp2_with fail
        refine (below_any cb v bs 2 _ HST3.out hl HZ.out (by omega)).mono ?_
        rintro e w4 ⟨r, rfl, hr0, hr1, _, hst4, hg4⟩
        have hr2 := hr1 (by omega)
        have ho4 := owns_grown ho2 hg4 (fun k hk h => by cases hk; have := (ho2.lt cb h).1; omega)
        have hg4w := grown_trans hg3w hg4
        have hs4 := hg4w.size
        have HST4 : Hid (St w4 cb v bs) := hst4
        clear ho2 hg3w hg4 hst4 HST3 hr1
        rcases (show r = 0 ∨ r = 1 by omega) with rfl | rfl
        · have hst5 : St (w4.alloc (.cells three 2)) cb v bs := st_below HST4.out ((Below.refl _ _).alloc (by omega) _)
          go_wp2_with fail
          refine (below_any cb v bs 3 _ hst5 hl HZ.out (by omega)).mono ?_
          rintro e w6 ⟨q, rfl, hq0, hq1, _, hst6, hg6⟩
          have hq2 := hq1 (by omega)
          obtain ⟨q, rfl⟩ := Int.eq_ofNat_of_zero_le hq0
          obtain ⟨z, hzr⟩ := three_get q (by omega)
          have hcell : w6.cell? ⟨w4.heap.size, q, none⟩ = some (.int .i64 z) := by
            rw [World.cell?_of_block (w := w4.alloc (.cells three 2)) (hg6.block w4.heap.size (by simp) (by simp; omega)), World.cell?_alloc_at _ _ _ _ rfl]
            exact hzr
          have ho6 := owns_grown (ho4.alloc (.cells three 2)) hg6 (fun k hk h => by cases hk; have := (ho4.lt cb h).1; omega)
          have hg6w : w.grownBy w6 (some cb) := grown_trans hg4w (grown_trans (World.grownBy_alloc w4 _ _) hg6)
          have hs6 := hg6w.size
          have HST6 : Hid (St w6 cb v bs) := hst6
          clear hst5 hst6 hg6 hzr hq1 ho4 hg4w HST4
          go_wp2_with (at_builtin; refine wpList_append_own _ rfl _ _ 29 rfl w.heap.size 2 i0 (.int .i64 0) 1 8 Try.underlying29 hi hz0 hz1 hz2 rfl (by decide) _ _ _ rfl (ho6.alloc _) ⟨w6.heap.size, 0, none⟩ 1 1 [.int .i64 z] rfl rfl ?d1 ?d2 ?d3 ?d4 ?d5 ?_)
          case d1 => exact one_cell w6 .i64 _ _
          case d2 => exact ints_oneCell .i64 [z]
          case d3 => unfold maxLen; omega
          case d4 => omega
          case d5 => simp; omega
          intro v7 w7 ho7 hg7 _
          have hg8 := grown_trans (World.grownBy_alloc w6 _ _) hg7
          have hg9 : w.grownBy w7 (some cb) := grown_own hg6w hg8 (fun g h => (ho6.lt g h).1)
          have HST7 : Hid (St w7 cb v bs) := st_below HST6.out (below_of_own hg8 (st_lt HST6.out) (fun g h => (ho6.lt g h).1) hcb)
          have ho8 : w7.ownsRow w.heap.size 2 1 v7 (acc ++ [z]).length (cellsInt64S (acc ++ [z])) := by simpa using ho7
          have hlen8 : (acc ++ [z]).length ≤ 300 := by rw [List.length_append, List.length_singleton]; omega
          clear ho7 hg7 hg8 ho6 hg6w
          go_wp2
          go_ret
          exact ⟨_, acc ++ [z], rfl, hlen8, ho8, HST7.out, hg9⟩
        · go_wp2_with fail
          refine (below_any cb v bs 2 _ HST4.out hl HZ.out (by omega)).mono ?_
          rintro e w6 ⟨q, rfl, hq0, hq1, _, hst6, hg6⟩
          have hq2 := hq1 (by omega)
          obtain ⟨q, rfl⟩ := Int.eq_ofNat_of_zero_le hq0
          have hg6w := grown_trans hg4w hg6
          have hs6 := hg6w.size
          have HST6 : Hid (St w6 cb v bs) := hst6
          have hql : q ≤ 1 := by omega
          clear hst6 hg6 hq1 ho4 hg4w HST4
          go_wp2_with (at_make; refine wpList_make_full _ rfl _ _ 29 rfl w.heap.size 2 i0 (.int .i64 0) 1 Try.underlying29 hi hz0 hz1 _ _ _ _ (200 + q) rfl rfl (by omega) (by omega) (by rw [hz2]; omega) (by unfold maxLen; omega) ?e1 ?_)
          case e1 => exact hs6
          intro w7 ho7 hg7
          have hg9 : w.grownBy w7 (some cb) := grown_own hg6w hg7 (fun g h => by cases h)
          have HST7 : Hid (St w7 cb v bs) := st_below HST6.out (below_of_own (B := w.heap.size) hg7 (st_lt HST6.out) (fun g h => by cases h) hcb)
          have ho8 : w7.ownsRow w.heap.size 2 1 (.slice (some ⟨w6.heap.size, 0, none⟩) (200 + q) (200 + q)) (List.replicate (200 + q) (0 : Int)).length (cellsInt64S (List.replicate (200 + q) 0)) := by
            rw [List.length_replicate]
            have h := ho7
            rw [toList_madeCells_one] at h
            simpa using h
          have hlen8 : (List.replicate (200 + q) (0 : Int)).length ≤ 300 := by rw [List.length_replicate]; omega
          clear ho7 hg7 hg6w
          go_wp2
          go_ret
          exact ⟨_, _, rfl, hlen8, ho8, HST7.out, hg9⟩

theorem drawNumbers_any (va : Value) (bs : List Int) (w : World) (ha : Rd w va (cellsByteS bs)) (hl : bs.length ≤ 4096) (hz : Bytes bs) :
    Calls Try.prog 13 #[va] w fun e w' => ∃ (v : Value) (l : List Int), e = .returned v ∧ l.length ≤ 300 ∧ Rd w' v (cellsInt64S l) ∧ Below w.heap.size w w' := by
  go_enter Try.func13, Try.ntmps13
  go_wp2_with fail
  refine (new_any va bs w ha hl (bytes_all hz)).mono ?_
  rintro e w1 ⟨rfl, hst1, hb1, hs1⟩
  go_wp2_with fail
  refine (drawList_any w.heap.size va bs w1 hst1 hl (bytes_all hz)).mono ?_
  rintro e w2 ⟨v, l, rfl, hll, ho, hst2, hg2⟩
  have hb2 : Below w.heap.size w w2 := hb1.grown hg2 (by omega) (fun k hk => by cases hk; exact Nat.le_refl _)
  have hrd := rd_owns ho
  clear hst1 hst2 hg2 ho ha hz
  go_wp2
  go_ret
  exact ⟨_, l, rfl, hll, hrd, hb2⟩

theorem numsB_len (l : List Int) : (numsB l).length ≤ 2000 := by
  unfold numsB
  split
  · next h =>
    have h1 := enc_len6 l.length (by omega)
    have h2 := flat_len l h.2
    rw [List.length_append]; omega
  · simp

set_option maxRecDepth 100000 in
theorem drawReadNumbers_any (va : Value) (bs : List Int) (w : World) (ha : Rd w va (cellsByteS bs)) (hl : bs.length ≤ 4096) (hz : Bytes bs) :
    Calls Try.prog 15 #[va] w fun e w' => ∃ s : ByteArray, e = .returned (.string s) ∧ s.size ≤ 3000 ∧ Below w.heap.size w w' := by
  go_enter Try.func15, Try.ntmps15
  go_wp2_with fail
  refine (new_any va bs w ha hl (bytes_all hz)).mono ?_
  rintro e w1 ⟨rfl, hst1, hb1, hs1⟩
  go_wp2_with fail
  refine (drawList_any w.heap.size va bs w1 hst1 hl (bytes_all hz)).mono ?_
  rintro e w2 ⟨v, l, rfl, hll, ho, hst2, hg2⟩
  have hb2 : Below w.heap.size w w2 := hb1.grown hg2 (by omega) (fun k hk => by cases hk; exact Nat.le_refl _)
  go_wp2_with fail
  refine (specNumbers_any v l w2 (rd_owns ho) (by omega)).mono ?_
  rintro e w3 ⟨rfl, hb3⟩
  have hst3 := st_below hst2 (hb3.mono (st_lt hst2))
  have hb3w := hb2.trans (hb3.mono hb2.size)
  have hsz : (asB (numsB l)).size ≤ 2000 := by rw [asB_size]; exact numsB_len l
  obtain ⟨t, ht⟩ : ∃ t, t = asB (numsB l) := ⟨_, rfl⟩
  rw [← ht] at hsz ⊢
  clear ht ho hst1 hst2 hg2 hb3
  go_wp2_with fail
  refine (once_any w.heap.size va bs 2 w3 hst3 hl (bytes_all hz) (by omega)).mono ?_
  rintro e w4 ⟨b, rfl, hst4, hg4⟩
  have hb4 : Below w.heap.size w w4 := hb3w.grown hg4 hb3w.size (fun k hk => by cases hk; exact Nat.le_refl _)
  clear hst3 hg4
  cases b with
  | false =>
    go_wp2
    go_ret
    exact ⟨t, rfl, by omega, hb4⟩
  | true =>
    go_wp2_with fail
    refine (bend_any w.heap.size va bs t ⟨#[0, 1, 128, 2]⟩ w4 hst4 hl (bytes_all hz) (by omega) (by decide) (by decide)).mono ?_
    rintro e w5 ⟨s5, rfl, hs5, hst5, hg5⟩
    have hb5 : Below w.heap.size w w5 := hb4.grown hg5 hb4.size (fun k hk => by cases hk; exact Nat.le_refl _)
    clear hst4 hst5 hg5
    go_wp2
    go_ret
    exact ⟨s5, rfl, by omega, hb5⟩

end Go.Proofs.Ytfoncmeplofedaa
