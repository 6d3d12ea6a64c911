/- CONTRACTS: spec.l1DrawTexts, DrawTexts, DrawReadTexts: whatever the code, some texts, some text. -/
import Derived.Test.YtfoncmeplofedaaDraws2
import Derived.Test.YtfoncmeplofedaaRoundT
namespace Go.Proofs.Ytfoncmeplofedaa
open Go.RowKit

theorem zeros_bytes (n : Nat) : Bytes (List.replicate n (0 : Int)) := fun x hx => by
  rw [(List.mem_replicate.1 hx).2]; omega

theorem all_snoc {acc : List ByteArray} {x : ByteArray} {B : Nat} (h : ∀ s ∈ acc, s.size ≤ B) (hx : x.size ≤ B) : ∀ s ∈ acc ++ [x], s.size ≤ B := fun s hs => by
  rcases List.mem_append.1 hs with h1 | h1
  · exact h s h1
  · rw [List.mem_singleton.1 h1]; exact hx

set_option maxHeartbeats 2000000 in
set_option maxRecDepth 100000 in
theorem drawTexts1_any (cb : Nat) (v : Value) (bs : List Int) (w : World) (hst : St w cb v bs) (hl : bs.length ≤ 4096) (hz : ∀ j, 0 ≤ bs.getD j 0 ∧ bs.getD j 0 ≤ 255) :
    Calls Try.prog 73 #[.pointer (some ⟨cb, 0, none⟩)] w fun e w' => ∃ (v' : Value) (xs : List ByteArray), e = .returned v' ∧ xs.length ≤ 300 ∧ w'.ownsRow w.heap.size 9 1 v' xs.length (cellsS xs) ∧ St w' cb v bs ∧ w.grownBy w' (some cb) := by
  obtain ⟨i0, hi, hz0, hz1, hz2⟩ := info_parts Try.infoS
  obtain ⟨j0, hj, hy0, hy1, hy2⟩ := info_parts Try.infoB
  have hcb := st_lt hst
  have hst0 : St (w.alloc (.cells #[] 9)) cb v bs := st_below hst ((Below.refl _ _).alloc (by omega) _)
  have HZ : Hid (∀ j, 0 ≤ bs.getD j 0 ∧ bs.getD j 0 ≤ 255) := hz
  clear hz
  go_enter Try.func73, Try.ntmps73
  go_wp2_with fail
  refine (below_any cb v bs 5 _ hst0 hl HZ.out (by omega)).mono ?_
  rintro e w1 ⟨n, rfl, hn0, hn1, _, hst1, hg1⟩
  have hg1w : w.grownBy w1 (some cb) := grown_trans (World.grownBy_alloc w _ _) hg1
  have hmade : w1.ownsRow w.heap.size 9 1 (.slice (some ⟨w.heap.size, 0, none⟩) 0 0) 0 (cellsS []) := owns_grown (World.ownsRow_lit w #[] 0 (Nat.le_refl _) (Nat.zero_le _) rfl) hg1 (fun k hk h => by cases hk; simp [Value.ownBlock] at h; omega)
  have hnm : n ≤ 5 := by have := hn1 (by omega); omega
  have HST1 : Hid (St w1 cb v bs) := hst1
  clear hst hst0 hst1 hn1 hg1
  go_wp2
  go_loopw [3, 4] (fun b q wr => ∃ (m : Int) (acc : List ByteArray), q = .int .i64 m ∧ 0 ≤ m ∧ (acc.length : Int) + m ≤ 5 ∧ wr.ownsRow w.heap.size 9 1 b acc.length (cellsS acc) ∧ Hid (St wr cb v bs) ∧ w.grownBy wr (some cb)) (fun _ q _ => (intOf q).toNat)
  case atStart => exact ⟨n, [], rfl, hn0, by simp; omega, hmade, HST1, hg1w⟩
  case round =>
    obtain ⟨m, acc, rfl, hm0, hm1, ho, hst2, hg2⟩ := hrel
    have hs := hg2.size
    clear hmade hg1w
    by_cases hlt : 0 < m
    · go_wp2_with fail
      refine (drawText_any cb v bs 5 _ hst2.out hl HZ.out (by omega) (by omega)).mono ?_
      rintro e w2 ⟨r, rfl, hr0, hst3, hg3⟩
      have ho2 := owns_grown ho hg3 (fun k hk h => by cases hk; have := (ho.lt cb h).1; omega)
      have hg3w := grown_trans hg2 hg3
      have hs3 := hg3w.size
      have HST3 : Hid (St w2 cb v bs) := hst3
      clear hst3 ho hg2 hg3 hst2
      go_wp2_with (at_builtin; refine wpList_append_own _ rfl _ _ 37 rfl w.heap.size 9 i0 (.string ⟨#[]⟩) 1 16 Try.underlying37 hi hz0 hz1 hz2 rfl (by decide) _ _ _ rfl (ho2.alloc _) ⟨w2.heap.size, 0, none⟩ 1 1 [.string r] rfl rfl ?c1 ?c2 ?c3 ?c4 ?c5 ?_)
      case c1 => exact one_str w2 r _
      case c2 => intro u hu; rw [List.mem_singleton.1 hu]; rfl
      case c3 => unfold maxLen; omega
      case c4 => omega
      case c5 => simp; omega
      intro v3 w3 ho3 hg4 _
      have hg5 := grown_trans (World.grownBy_alloc w2 _ _) hg4
      have hg6 : w.grownBy w3 (some cb) := grown_own hg3w hg5 (fun g h => (ho2.lt g h).1)
      have HST4 : Hid (St w3 cb v bs) := st_below HST3.out (below_of_own hg5 (st_lt HST3.out) (fun g h => (ho2.lt g h).1) hcb)
      have ho4 : w3.ownsRow w.heap.size 9 1 v3 (acc ++ [r]).length (cellsS (acc ++ [r])) := by simpa using ho3
      clear ho3 hg4 hg5 ho2 hg3w
      go_wp2
      go_roundw
      case rel => exact ⟨m - 1, acc ++ [r], by go_num, by omega, by rw [List.length_append, List.length_singleton]; omega, ho4, HST4, hg6⟩
      case measure => simp [intOf]; omega
    · go_wp2_with fail
      refine (once_any cb v bs 24 _ hst2.out hl HZ.out (by omega)).mono ?_
      rintro e w2 ⟨b, rfl, hst3, hg3⟩
      have ho2 := owns_grown ho hg3 (fun k hk h => by cases hk; have := (ho.lt cb h).1; omega)
      have hg3w := grown_trans hg2 hg3
      have hs3 := hg3w.size
      have HST3 : Hid (St w2 cb v bs) := hst3
      have hlen : acc.length ≤ 300 := by omega
      clear ho hg2 hg3 hst2 hst3
      cases b with
      | false =>
        go_wp2
        go_ret
        exact ⟨_, acc, rfl, hlen, ho2, HST3.out, hg3w⟩
      | true =>
        go_wp2_with fail
        refine (below_any cb v bs 2 _ HST3.out hl HZ.out (by omega)).mono ?_
        rintro e w4 ⟨r, rfl, hr0, hr1, _, hst4, hg4⟩
        have hr2 := hr1 (by omega)
        have ho4 := owns_grown ho2 hg4 (fun k hk h => by cases hk; have := (ho2.lt cb h).1; omega)
        have hg4w := grown_trans hg3w hg4
        have hs4 := hg4w.size
        have HST4 : Hid (St w4 cb v bs) := hst4
        clear ho2 hg3w hg4 hst4 HST3 hr1
        rcases (show r = 0 ∨ r = 1 by omega) with rfl | rfl
        · go_wp2_with fail
          refine (below_any cb v bs 2 _ HST4.out hl HZ.out (by omega)).mono ?_
          rintro e w6 ⟨q, rfl, hq0, hq1, _, hst6, hg6⟩
          have hq2 := hq1 (by omega)
          obtain ⟨q, rfl⟩ := Int.eq_ofNat_of_zero_le hq0
          have hg6w := grown_trans hg4w hg6
          have hs6 := hg6w.size
          have HST6 : Hid (St w6 cb v bs) := hst6
          have hql : q ≤ 1 := by omega
          clear hst6 hg6 hq1 ho4 hg4w HST4
          go_wp2_with (at_make; refine wpList_make_full _ rfl _ _ 37 rfl w.heap.size 9 i0 (.string ⟨#[]⟩) 1 Try.underlying37 hi hz0 hz1 _ _ _ _ (200 + q) rfl rfl (by omega) (by omega) (by rw [hz2]; omega) (by unfold maxLen; omega) ?e1 ?_)
          case e1 => exact hs6
          intro w7 ho7 hg7
          have hg9 : w.grownBy w7 (some cb) := grown_own hg6w hg7 (fun g h => by cases h)
          have HST7 : Hid (St w7 cb v bs) := st_below HST6.out (below_of_own (B := w.heap.size) hg7 (st_lt HST6.out) (fun g h => by cases h) hcb)
          have ho8 : w7.ownsRow w.heap.size 9 1 (.slice (some ⟨w6.heap.size, 0, none⟩) (200 + q) (200 + q)) (List.replicate (200 + q) (⟨#[]⟩ : ByteArray)).length (cellsS (List.replicate (200 + q) (⟨#[]⟩ : ByteArray))) := by
            rw [List.length_replicate]
            have h := ho7
            rw [toList_madeCells_one] at h
            simpa using h
          have hlen8 : (List.replicate (200 + q) (⟨#[]⟩ : ByteArray)).length ≤ 300 := by rw [List.length_replicate]; omega
          clear ho7 hg7 hg6w
          go_wp2
          go_ret
          exact ⟨_, _, rfl, hlen8, ho8, HST7.out, hg9⟩
        · go_wp2_with fail
          refine (below_any cb v bs 2 _ HST4.out hl HZ.out (by omega)).mono ?_
          rintro e w6 ⟨q, rfl, hq0, hq1, _, hst6, hg6⟩
          have hq2 := hq1 (by omega)
          obtain ⟨q, rfl⟩ := Int.eq_ofNat_of_zero_le hq0
          have ho6 := owns_grown ho4 hg6 (fun k hk h => by cases hk; have := (ho4.lt cb h).1; omega)
          have hg6w := grown_trans hg4w hg6
          have hs6 := hg6w.size
          have HST6 : Hid (St w6 cb v bs) := hst6
          have hql : q ≤ 1 := by omega
          clear hst6 hg6 hq1 ho4 hg4w HST4
          go_wp2_with (at_make; refine wpList_make_full _ rfl _ _ 22 rfl w.heap.size 5 j0 (.int .u8 0) 1 Try.underlying22 hj hy0 hy1 _ _ _ _ (2000 + q) rfl rfl (by omega) (by omega) (by rw [hy2]; omega) (by unfold maxLen; omega) ?e1 ?_)
          case e1 => exact hs6
          intro w7 ho7 hg7
          have hg7w : w.grownBy w7 (some cb) := grown_own hg6w hg7 (fun g h => by cases h)
          have HST7 : Hid (St w7 cb v bs) := st_below HST6.out (below_of_own (B := w.heap.size) hg7 (st_lt HST6.out) (fun g h => by cases h) hcb)
          have hso : w7.ownsRow w.heap.size 9 1 _ acc.length (cellsS acc) := owns_grown ho6 hg7 (fun k hk => by cases hk)
          have ho8 : w7.ownsRow w.heap.size 5 1 (.slice (some ⟨w6.heap.size, 0, none⟩) (2000 + q) (2000 + q)) (List.replicate (2000 + q) (0 : Int)).length (cellsByteS (List.replicate (2000 + q) 0)) := by
            rw [List.length_replicate]
            have h := ho7
            rw [toList_madeCells_one] at h
            simpa using h
          have hstr := str_own ho8 (zeros_bytes _)
          obtain ⟨x, hx⟩ : ∃ x, x = asB (List.replicate (2000 + q) (0 : Int)) := ⟨_, rfl⟩
          rw [← hx] at hstr
          have hs7 := hg7w.size
          clear ho7 hg7 hg6w ho8 ho6 hx HST6
          go_wp2_with (at_builtin; refine wpList_append_own _ rfl _ _ 37 rfl w.heap.size 9 i0 (.string ⟨#[]⟩) 1 16 Try.underlying37 hi hz0 hz1 hz2 rfl (by decide) _ _ _ rfl (hso.alloc _) ⟨w7.heap.size, 0, none⟩ 1 1 [.string x] rfl rfl ?d1 ?d2 ?d3 ?d4 ?d5 ?_)
          case d1 => exact one_str w7 x _
          case d2 => intro u hu; rw [List.mem_singleton.1 hu]; rfl
          case d3 => unfold maxLen; omega
          case d4 => omega
          case d5 => simp; omega
          intro v9 w9 ho9 hg9 _
          have hg10 := grown_trans (World.grownBy_alloc w7 _ _) hg9
          have hg11 : w.grownBy w9 (some cb) := grown_own hg7w hg10 (fun g h => (hso.lt g h).1)
          have HST9 : Hid (St w9 cb v bs) := st_below HST7.out (below_of_own hg10 (st_lt HST7.out) (fun g h => (hso.lt g h).1) hcb)
          have ho10 : w9.ownsRow w.heap.size 9 1 v9 (acc ++ [x]).length (cellsS (acc ++ [x])) := by simpa using ho9
          have hlen8 : (acc ++ [x]).length ≤ 300 := by rw [List.length_append, List.length_singleton]; omega
          clear ho9 hg9 hg10 hso hg7w
          go_wp2
          go_ret
          exact ⟨_, acc ++ [x], rfl, hlen8, ho10, HST9.out, hg11⟩

theorem drawTexts_any (va : Value) (bs : List Int) (w : World) (ha : Rd w va (cellsByteS bs)) (hl : bs.length ≤ 4096) (hz : Bytes bs) :
    Calls Try.prog 23 #[va] w fun e w' => ∃ (v : Value) (l : List ByteArray), e = .returned v ∧ l.length ≤ 300 ∧ Rd w' v (cellsS l) ∧ Below w.heap.size w w' := by
  go_enter Try.func23, Try.ntmps23
  go_wp2_with fail
  refine (new_any va bs w ha hl (bytes_all hz)).mono ?_
  rintro e w1 ⟨rfl, hst1, hb1, hs1⟩
  go_wp2_with fail
  refine (drawTexts1_any w.heap.size va bs w1 hst1 hl (bytes_all hz)).mono ?_
  rintro e w2 ⟨v, l, rfl, hll, ho, hst2, hg2⟩
  have hb2 : Below w.heap.size w w2 := hb1.grown hg2 (by omega) (fun k hk => by cases hk; exact Nat.le_refl _)
  have hrd := rd_owns ho
  clear hst1 hst2 hg2 ho ha hz
  go_wp2
  go_ret
  exact ⟨_, l, rfl, hll, hrd, hb2⟩

set_option maxRecDepth 100000 in
theorem drawReadTexts_any (va : Value) (bs : List Int) (w : World) (ha : Rd w va (cellsByteS bs)) (hl : bs.length ≤ 4096) (hz : Bytes bs) :
    Calls Try.prog 25 #[va] w fun e w' => ∃ s : ByteArray, e = .returned (.string s) ∧ s.size ≤ 500000 ∧ Below w.heap.size w w' := by
  go_enter Try.func25, Try.ntmps25
  go_wp2_with fail
  refine (new_any va bs w ha hl (bytes_all hz)).mono ?_
  rintro e w1 ⟨rfl, hst1, hb1, hs1⟩
  go_wp2_with fail
  refine (drawTexts1_any w.heap.size va bs w1 hst1 hl (bytes_all hz)).mono ?_
  rintro e w2 ⟨v, l, rfl, hll, ho, hst2, hg2⟩
  have hb2 : Below w.heap.size w w2 := hb1.grown hg2 (by omega) (fun k hk => by cases hk; exact Nat.le_refl _)
  go_wp2_with fail
  refine (specTexts_any v l w2 (rd_owns ho) (by omega)).mono ?_
  rintro e w3 ⟨rfl, hb3⟩
  have hst3 := st_below hst2 (hb3.mono (st_lt hst2))
  have hb3w := hb2.trans (hb3.mono hb2.size)
  have hsz : (asB (textsB l)).size ≤ 402000 := by rw [asB_size]; exact textsB_len l
  obtain ⟨t, ht⟩ : ∃ t, t = asB (textsB l) := ⟨_, rfl⟩
  rw [← ht] at hsz ⊢
  clear ht ho hst1 hst2 hg2 hb3
  go_wp2_with fail
  refine (once_any w.heap.size va bs 2 w3 hst3 hl (bytes_all hz) (by omega)).mono ?_
  rintro e w4 ⟨b, rfl, hst4, hg4⟩
  have hb4 : Below w.heap.size w w4 := hb3w.grown hg4 hb3w.size (fun k hk => by cases hk; exact Nat.le_refl _)
  clear hst3 hg4
  cases b with
  | false =>
    go_wp2
    go_ret
    exact ⟨t, rfl, by omega, hb4⟩
  | true =>
    go_wp2_with fail
    refine (bend_any w.heap.size va bs t ⟨#[0, 1, 128, 2, 97]⟩ w4 hst4 hl (bytes_all hz) (by omega) (by decide) (by decide)).mono ?_
    rintro e w5 ⟨s5, rfl, hs5, hst5, hg5⟩
    have hb5 : Below w.heap.size w w5 := hb4.grown hg5 hb4.size (fun k hk => by cases hk; exact Nat.le_refl _)
    clear hst4 hst5 hg5
    go_wp2
    go_ret
    exact ⟨s5, rfl, by omega, hb5⟩

end Go.Proofs.Ytfoncmeplofedaa
