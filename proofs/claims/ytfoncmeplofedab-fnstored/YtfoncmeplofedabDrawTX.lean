/- CONTRACTS: spec.l1DrawText and l2DrawText once more: what is drawn has not the digest of 2001 noughts. -/
import Derived.Test.YtfoncmeplofedabDrawsD
import Derived.Test.YtfoncmeplofedabFarMath
namespace Go.Proofs.Ytfoncmeplofedab
open Go.RowKit
set_option linter.unusedVariables false
set_option maxHeartbeats 1000000 in
set_option maxRecDepth 100000 in
theorem drawTextX_any (cb : Nat) (v : Value) (bs : List Int) (most : Int) (w : World) (hst : St w cb v bs) (hl : bs.length ≤ 4096) (hz : ∀ j, 0 ≤ bs.getD j 0 ∧ bs.getD j 0 ≤ 255) (h0 : 0 ≤ most) (h1 : most ≤ 10000) :
    Calls Try.prog 73 #[.pointer (some ⟨cb, 0, none⟩), .int .i64 most] w fun e w' => ∃ s : ByteArray, e = .returned (.string s) ∧ (∃ L : List Int, s = asB L ∧ Once L ∧ (L.length : Int) ≤ most) ∧ St w' cb v bs ∧ w.grownBy w' (some cb) := by
  obtain ⟨i0, hi, hz0, hz1, hz2⟩ := info_parts Try.infoB
  have hcb := st_lt hst
  go_enter Try.func73, Try.ntmps73
  go_wp2_with fail
  have hst0 : St (w.alloc (.cells #[] 5)) cb v bs := st_below hst ((Below.refl _ _).alloc (by omega) _)
  refine (below_any cb v bs (most + 1) _ hst0 hl hz (by omega)).mono ?_
  rintro e w1 ⟨n, rfl, hn0, hn1, _, hst1, hg1⟩
  have hg1w : w.grownBy w1 (some cb) := grown_trans (World.grownBy_alloc w _ _) hg1
  have hmade : w1.ownsRow w.heap.size 5 1 (.slice (some ⟨w.heap.size, 0, none⟩) 0 0) 0 (cellsByteS []) := owns_grown (World.ownsRow_lit w #[] 0 (Nat.le_refl _) (Nat.zero_le _) rfl) hg1 (fun k hk h => by cases hk; simp [Value.ownBlock] at h; omega)
  have hnm : n ≤ most := by have := hn1 (by omega); omega
  have HST1 : Hid (St w1 cb v bs) := hst1
  have HZ : Hid (∀ j, 0 ≤ bs.getD j 0 ∧ bs.getD j 0 ≤ 255) := hz
  clear hst hst0 hst1 hn1 hg1 hz
  go_wp2
  go_loopw [5, 6] (fun b q wr => ∃ (m : Int) (acc : List Int), q = .int .i64 m ∧ 0 ≤ m ∧ (acc.length : Int) + m ≤ most ∧ Hid (LetL acc) ∧ wr.ownsRow w.heap.size 5 1 b acc.length (cellsByteS acc) ∧ Hid (St wr cb v bs) ∧ w.grownBy wr (some cb)) (fun _ q _ => (intOf q).toNat)
  case atStart => exact ⟨n, [], rfl, hn0, by simp; omega, (fun x hx => absurd hx List.not_mem_nil), hmade, HST1, hg1w⟩
  case round =>
    obtain ⟨m, acc, rfl, hm0, hm1, hby, ho, hst2, hg2⟩ := hrel
    have hs := hg2.size
    clear hmade hg1w
    by_cases hlt : 0 < m
    · go_wp2_with fail
      refine (below_any cb v bs 3 _ hst2.out hl HZ.out (by omega)).mono ?_
      rintro e w2 ⟨r, rfl, hr0, hr1, _, hst3, hg3⟩
      have hr2 := hr1 (by omega)
      have ho2 := owns_grown ho hg3 (fun k hk h => by cases hk; have := (ho.lt cb h).1; omega)
      have hg3w := grown_trans hg2 hg3
      have hs3 := hg3w.size
      have HST3 : Hid (St w2 cb v bs) := hst3
      clear hst3 hr1 ho hg2 hg3 hst2
      go_wp2_with (at_builtin; refine wpList_append_own _ rfl _ _ 22 rfl w.heap.size 5 i0 (.int .u8 0) 1 1 Try.underlying22 hi hz0 hz1 hz2 rfl (by decide) _ _ _ rfl (ho2.alloc _) ⟨w2.heap.size, 0, none⟩ 1 1 [.int .u8 (97 + r)] rfl rfl ?c1 ?c2 ?c3 ?c4 ?c5 ?_)
      case c1 => exact one_cell w2 .u8 _ _
      case c2 => exact ints_oneCell .u8 [97 + r]
      case c3 => unfold maxLen; omega
      case c4 => omega
      case c5 => simp; omega
      intro v3 w3 ho3 hg4 _
      have hg5 := grown_trans (World.grownBy_alloc w2 _ _) hg4
      have hg6 : w.grownBy w3 (some cb) := grown_own hg3w hg5 (fun g h => (ho2.lt g h).1)
      have hb3 : Below (cb + 1) w2 w3 := ⟨hg5.os, hg5.tape, hg5.output, hg5.size, fun k hk => hg5.block k (by omega) (fun e => by have := (ho2.lt k e.symm).1; omega)⟩
      have HST4 : Hid (St w3 cb v bs) := st_below HST3.out hb3
      have ho4 : w3.ownsRow w.heap.size 5 1 v3 (acc ++ [97 + r]).length (cellsByteS (acc ++ [97 + r])) := by simpa using ho3
      have hby2 : Hid (LetL (acc ++ [97 + r])) := fun x hx => by
        rcases List.mem_append.1 hx with h | h
        · exact hby.out x h
        · rw [List.mem_singleton.1 h]; omega
      clear ho3 hg4 hg5 ho2 hg3w hb3
      go_wp2
      go_roundw
      case rel => exact ⟨m - 1, acc ++ [97 + r], by go_num, by omega, by rw [List.length_append, List.length_singleton]; omega, hby2, ho4, HST4, hg6⟩
      case measure => simp [intOf]; omega
    · go_wp2_with fail
      refine (once_any cb v bs 6 _ hst2.out hl HZ.out (by omega)).mono ?_
      rintro e w2 ⟨r, rfl, hst3, hg3⟩
      have ho2 := owns_grown ho hg3 (fun k hk h => by cases hk; have := (ho.lt cb h).1; omega)
      have hg3w := grown_trans hg2 hg3
      have hs3 := hg3w.size
      have HST3 : Hid (St w2 cb v bs) := hst3
      have hlen : (acc.length : Int) ≤ most := by omega
      clear hst3 ho hg2 hg3 hst2
      by_cases hbr : r = true ∧ 0 < (acc.length : Int)
      · obtain ⟨rfl, hpos⟩ := hbr
        obtain ⟨g, c2, rfl, hgg⟩ := owns_head ho2 (by omega)
        go_wp2_with fail
        refine (below_any cb v bs (acc.length : Int) _ HST3.out hl HZ.out (by omega)).mono ?_
        rintro e w4 ⟨q, rfl, hq0, hq1, _, hst4, hg4⟩
        have hq2 := hq1 hpos
        have ho4 := owns_grown ho2 hg4 (fun k hk h => by cases hk; have := (ho2.lt cb h).1; omega)
        have hg4w := grown_trans hg3w hg4
        clear hq1 ho2 hg3w hg4 HST3
        go_wp2_with fail
        refine (byte_any cb v bs _ hst4 hl HZ.out).mono ?_
        rintro e w5 ⟨y, rfl, hy0, hy1, hst5, hg5⟩
        have ho5 := owns_grown ho4 hg5 (fun k hk h => by cases hk; have := (ho4.lt cb h).1; omega)
        have hg5w := grown_trans hg4w hg5
        obtain ⟨j, rfl⟩ := Int.eq_ofNat_of_zero_le hq0
        have hcell := (ho5.cellAt j (by omega)).trans (ints_get .u8 acc j (by omega))
        have hf := ho5.frozenAt j
        have hstr := ho5.stored j (.int .u8 y)
        have e : (cellsByteS acc).set j (.int .u8 y) = cellsByteS (acc.set j y) := List.map_set.symm
        rw [e] at hstr
        obtain ⟨ho6, hg6⟩ := hstr
        have hge : w.heap.size ≤ g := (ho5.lt g rfl).1
        have hb6 : Below (cb + 1) w5 (w5.setCell ⟨g, j, none⟩ (.int .u8 y)) := (Below.refl _ _).setCell (by show cb + 1 ≤ g; omega) _
        have HST6 : Hid (St (w5.setCell ⟨g, j, none⟩ (.int .u8 y)) cb v bs) := st_below hst5 hb6
        have hg7 : w.grownBy (w5.setCell ⟨g, j, none⟩ (.int .u8 y)) (some cb) := grown_own hg5w hg6 (fun g' h => by cases h; exact hge)
        have hby6 : Once (acc.set j y) := once_set hby.out hy0 hy1
        have hl6 : (acc.set j y).length = acc.length := List.length_set
        rw [← hl6] at ho6
        have hs6 := str_own ho6 (once_bytes hby6)
        rw [hl6] at hs6
        have hsz : ∃ L : List Int, asB (acc.set j y) = asB L ∧ Once L ∧ (L.length : Int) ≤ most := ⟨_, rfl, hby6, by rw [hl6]; exact hlen⟩
        obtain ⟨u, hu⟩ : ∃ u, u = Value.int .u8 (acc.getD j 0) := ⟨_, rfl⟩
        rw [← hu] at hcell
        clear hu ho6 ho5 ho4 hst4 hst5 hg4w hg5w hg5 hg6 hb6 hby6 hl6
        go_wp2
        go_ret
        exact ⟨_, rfl, hsz, HST6.out, hg7⟩
      · have hsz : ∃ L : List Int, asB acc = asB L ∧ Once L ∧ (L.length : Int) ≤ most := ⟨_, rfl, letL_once hby.out, hlen⟩
        have hs6 := str_own ho2 (once_bytes (letL_once hby.out))
        by_cases hr : r = true
        · have hz2 : ¬ 0 < (acc.length : Int) := fun h => hbr ⟨hr, h⟩
          have hpd : decide (0 < (acc.length : Int)) = false := decide_eq_false hz2
          subst hr
          obtain ⟨ao, cap, rfl⟩ := owns_slice ho2
          clear hbr ho2
          go_wp2
          go_ret
          exact ⟨_, rfl, hsz, HST3.out, hg3w⟩
        · have hr2 : r = false := by simpa using hr
          subst hr2
          obtain ⟨ao, cap, rfl⟩ := owns_slice ho2
          clear hbr hr ho2
          go_wp2
          go_ret
          exact ⟨_, rfl, hsz, HST3.out, hg3w⟩
theorem two_getX (j : Nat) (h : j < 2) : ∃ s : ByteArray, twoC[j]? = some (.string s) ∧ (s.size ≤ 9 ∧ digest s ≠ 422356391) := by
  rcases (show j = 0 ∨ j = 1 by omega) with rfl | rfl
  · exact ⟨twoA, rfl, by decide, by decide +kernel⟩
  · exact ⟨twoB, rfl, by decide, by decide +kernel⟩
set_option maxRecDepth 100000 in
theorem drawText2X_any (cb : Nat) (v : Value) (bs : List Int) (w : World) (hst : St w cb v bs) (hl : bs.length ≤ 4096) (hz : ∀ j, 0 ≤ bs.getD j 0 ∧ bs.getD j 0 ≤ 255) :
    Calls Try.prog 114 #[.pointer (some ⟨cb, 0, none⟩)] w fun e w' => ∃ s : ByteArray, e = .returned (.string s) ∧ (s.size ≤ 9 ∧ digest s ≠ 422356391) ∧ St w' cb v bs ∧ w.grownBy w' (some cb) := by
  have hcb := st_lt hst
  go_enter Try.func114, Try.ntmps114
  go_wp2_with fail
  refine (once_any cb v bs 6 w hst hl hz (by omega)).mono ?_
  rintro e w2 ⟨b, rfl, hst2, hg2⟩
  have hs2 := hg2.size
  cases b with
  | true =>
    have hst2' := st_below hst2 ((Below.refl (cb + 1) w2).alloc (by omega) (.cells twoC 9))
    go_wp2_with fail
    refine (below_any cb v bs 2 _ hst2' hl hz (by omega)).mono ?_
    rintro e w3 ⟨r, rfl, hr0, hr1, _, hst3, hg3⟩
    have hr2 := hr1 (by omega)
    obtain ⟨r, rfl⟩ := Int.eq_ofNat_of_zero_le hr0
    obtain ⟨s, hzr, hs9⟩ := two_getX r (by omega)
    have hcell : w3.cell? ⟨w2.heap.size, r, none⟩ = some (.string s) := by
      rw [World.cell?_of_block (w := w2.alloc (.cells twoC 9)) (hg3.block w2.heap.size (by simp) (by simp; omega)), World.cell?_alloc_at _ _ _ _ rfl]
      exact hzr
    have HG : Hid (w.grownBy w3 (some cb)) := grown_trans hg2 (grown_trans (World.grownBy_alloc w2 _ _) hg3)
    have HST : Hid (St w3 cb v bs) := hst3
    clear hst hst2 hst2' hst3 hg2 hg3 hzr hz
    go_wp2
    go_ret
    exact ⟨_, rfl, hs9, HST.out, HG.out⟩
  | false =>
    go_wp2_with fail
    refine (drawTextX_any cb v bs 5 w2 hst2 hl hz (by omega) (by omega)).mono ?_
    rintro e w3 ⟨s, rfl, ⟨L, rfl, hL1, hL2⟩, hst3, hg3⟩
    have hs9 : (asB L).size ≤ 9 ∧ digest (asB L) ≠ 422356391 := ⟨by rw [asB_size]; omega, once_digest hL1 (by omega)⟩
    have HG : Hid (w.grownBy w3 (some cb)) := grown_trans hg2 hg3
    have HST : Hid (St w3 cb v bs) := hst3
    clear hst hst2 hst3 hg2 hg3 hz
    go_wp2
    go_ret
    exact ⟨_, rfl, hs9, HST.out, HG.out⟩
end Go.Proofs.Ytfoncmeplofedab
