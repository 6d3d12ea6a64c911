/- CONTRACTS: the draws of chapter 5: whatever the code, some counts, some lengths, some codes, some text. -/
import Derived.Test.YtgcpdifggjkdhabDraw
import Derived.Test.YtgcpdifggjkdhabBend
import Derived.Test.YtgcpdifggjkdhabLensT
import Derived.Laws.OwnMore
namespace Go.Proofs.Ytgcpdifggjkdhab
open Go.RowKit
set_option linter.unusedVariables false

theorem codeR {bs : List Int} (h : Bytes bs) : ∀ j, 0 ≤ bs.getD j 0 ∧ bs.getD j 0 ≤ 255 := bytes_get h
theorem below_own5 {w2 w3 : World} {row : Option Nat} {cb B : Nat} (hg : w2.grownBy w3 row) (hcb : cb < w2.heap.size) (hr : ∀ g, row = some g → B ≤ g) (hB : cb < B) : Below (cb + 1) w2 w3 :=
  ⟨hg.os, hg.tape, hg.output, hg.size, fun k hk => hg.block k (by omega) (fun e => by have := hr k e.symm; omega)⟩
theorem grown_bel {w w' : World} (h : Below w.heap.size w w') (row : Option Nat) : w.grownBy w' row := ⟨h.os, h.tape, h.output, h.size, fun k hk _ => h.block k hk⟩
abbrev tabA : Array Value := #[.int .i64 0, .int .i64 100000, .int .i64 100001, .int .i64 (-1)]
theorem tabA_get (j : Nat) (h : j < 4) : ∃ z, tabA[j]? = some (.int .i64 z) := by
  rcases (show j = 0 ∨ j = 1 ∨ j = 2 ∨ j = 3 by omega) with rfl | rfl | rfl | rfl <;> exact ⟨_, rfl⟩
abbrev tabB : Array Value := #[.int .i64 0, .int .i64 1, .int .i64 2, .int .i64 5, .int .i64 40, .int .i64 41]
theorem tabB_get (j : Nat) (h : j < 6) : ∃ z, tabB[j]? = some (.int .i64 z) := by
  rcases (show j = 0 ∨ j = 1 ∨ j = 2 ∨ j = 3 ∨ j = 4 ∨ j = 5 by omega) with rfl | rfl | rfl | rfl | rfl | rfl <;> exact ⟨_, rfl⟩

set_option maxHeartbeats 2000000 in
set_option maxRecDepth 100000 in
theorem draw5_any (cb : Nat) (v : Value) (bs : List Int) (w : World) (hst : St w cb v bs) (hl : bs.length ≤ 4096) (hz : ∀ j, 0 ≤ bs.getD j 0 ∧ bs.getD j 0 ≤ 255) :
    Calls Try.prog 61 #[.pointer (some ⟨cb, 0, none⟩)] w fun e w' => ∃ (v' : Value) (xs : List Int), e = .returned v' ∧ xs.length ≤ 40 ∧ w'.ownsRow w.heap.size 2 1 v' xs.length (cellsInt64S xs) ∧ St w' cb v bs ∧ w.grownBy w' (some cb) := by
  obtain ⟨i0, hi, hz0, hz1, hz2⟩ := info_parts Try.info64
  have hcb := st_lt hst
  have hst0 : St (w.alloc (.cells #[] 2)) cb v bs := st_below hst ((Below.refl _ _).alloc (by omega) _)
  have HZ : Hid (∀ j, 0 ≤ bs.getD j 0 ∧ bs.getD j 0 ≤ 255) := hz
  clear hz
  go_enter Try.func61, Try.ntmps61
  go_wp2_with fail
  refine (below_any cb v bs 7 _ hst0 hl HZ.out (by omega)).mono ?_
  rintro e w1 ⟨n, rfl, hn0, hn1, _, hst1, hg1⟩
  have hg1w : w.grownBy w1 (some cb) := grown_trans (World.grownBy_alloc w _ _) hg1
  have hmade : w1.ownsRow w.heap.size 2 1 (.slice (some ⟨w.heap.size, 0, none⟩) 0 0) 0 (cellsInt64S []) := owns_grown (World.ownsRow_lit w #[] 0 (Nat.le_refl _) (Nat.zero_le _) rfl) hg1 (fun k hk h => by cases hk; simp [Value.ownBlock] at h; omega)
  have hnm : n ≤ 6 := by have := hn1 (by omega); omega
  have HST1 : Hid (St w1 cb v bs) := hst1
  clear hst hst0 hst1 hn1 hg1
  go_wp2
  go_loopw [3, 4] (fun b q wr => ∃ (m : Int) (acc : List Int), q = .int .i64 m ∧ 0 ≤ m ∧ (acc.length : Int) + m ≤ 6 ∧ wr.ownsRow w.heap.size 2 1 b acc.length (cellsInt64S acc) ∧ Hid (St wr cb v bs) ∧ w.grownBy wr (some cb)) (fun _ q _ => (intOf q).toNat)
  case atStart => exact ⟨n, [], rfl, hn0, by simp; omega, hmade, HST1, hg1w⟩
  case round =>
    obtain ⟨m, acc, rfl, hm0, hm1, ho, hst2, hg2⟩ := hrel
    have hs := hg2.size
    clear hmade hg1w
    by_cases hlt : 0 < m
    · go_wp2_with fail
      refine (below_any cb v bs 12 _ hst2.out hl HZ.out (by omega)).mono ?_
      rintro e w2 ⟨r, rfl, hr0, hr1, _, hst3, hg3⟩
      have ho2 := owns_grown ho hg3 (fun k hk h => by cases hk; have := (ho.lt cb h).1; omega)
      have hg3w := grown_trans hg2 hg3
      have hs3 := hg3w.size
      have HST3 : Hid (St w2 cb v bs) := hst3
      have hr12 := hr1 (by omega)
      clear hst3 hr1 ho hg2 hg3 hst2
      go_wp2_with (at_builtin; refine wpList_append_own _ rfl _ _ 28 rfl w.heap.size 2 i0 (.int .i64 0) 1 8 Try.underlying28 hi hz0 hz1 hz2 rfl (by decide) _ _ _ rfl (ho2.alloc _) ⟨w2.heap.size, 0, none⟩ 1 1 [.int .i64 (1 + r)] rfl rfl ?c1 ?c2 ?c3 ?c4 ?c5 ?_)
      case c1 => exact one_cell w2 .i64 _ _
      case c2 => exact ints_oneCell .i64 [1 + r]
      case c3 => unfold maxLen; omega
      case c4 => omega
      case c5 => simp; omega
      intro v3 w3 ho3 hg4 _
      have hg5 := grown_trans (World.grownBy_alloc w2 _ _) hg4
      have hg6 : w.grownBy w3 (some cb) := grown_own hg3w hg5 (fun g h => (ho2.lt g h).1)
      have HST4 : Hid (St w3 cb v bs) := st_below HST3.out (below_own5 hg5 (st_lt HST3.out) (fun g h => (ho2.lt g h).1) hcb)
      have ho4 : w3.ownsRow w.heap.size 2 1 v3 (acc ++ [1 + r]).length (cellsInt64S (acc ++ [1 + r])) := by simpa using ho3
      clear ho3 hg4 hg5 ho2 hg3w
      go_wp2
      go_roundw
      case rel => exact ⟨m - 1, acc ++ [1 + r], by go_num, by omega, by rw [List.length_append, List.length_singleton]; omega, ho4, HST4, hg6⟩
      case measure => simp [intOf]; omega
    · go_wp2_with fail
      refine (once_any cb v bs 14 _ hst2.out hl HZ.out (by omega)).mono ?_
      rintro e w2 ⟨b, rfl, hst3, hg3⟩
      have ho2 := owns_grown ho hg3 (fun k hk h => by cases hk; have := (ho.lt cb h).1; omega)
      have hg3w := grown_trans hg2 hg3
      have hs3 := hg3w.size
      have HST3 : Hid (St w2 cb v bs) := hst3
      have hlen : acc.length ≤ 40 := by omega
      clear ho hg2 hg3 hst2 hst3
      cases b with
      | false =>
        go_wp2
        go_ret
        exact ⟨_, acc, rfl, hlen, ho2, HST3.out, hg3w⟩
      | true =>
        go_wp2_with fail
        refine (below_any cb v bs 2 _ HST3.out hl HZ.out (by omega)).mono ?_
        rintro e w4 ⟨r, rfl, hr0, hr1, _, hst4, hg4⟩
        have hr2 := hr1 (by omega)
        have ho4 := owns_grown ho2 hg4 (fun k hk h => by cases hk; have := (ho2.lt cb h).1; omega)
        have hg4w := grown_trans hg3w hg4
        have hs4 := hg4w.size
        have HST4 : Hid (St w4 cb v bs) := hst4
        clear ho2 hg3w hg4 hst4 HST3 hr1
        rcases (show r = 0 ∨ r = 1 by omega) with rfl | rfl
        · have hst5 : St (w4.alloc (.cells tabA 2)) cb v bs := st_below HST4.out ((Below.refl _ _).alloc (by omega) _)
          go_wp2_with fail
          refine (below_any cb v bs 4 _ hst5 hl HZ.out (by omega)).mono ?_
          rintro e w6 ⟨q, rfl, hq0, hq1, _, hst6, hg6⟩
          have hq2 := hq1 (by omega)
          obtain ⟨q, rfl⟩ := Int.eq_ofNat_of_zero_le hq0
          obtain ⟨z, hzr⟩ := tabA_get q (by omega)
          have hcell : w6.cell? ⟨w4.heap.size, q, none⟩ = some (.int .i64 z) := by
            rw [World.cell?_of_block (w := w4.alloc (.cells tabA 2)) (hg6.block w4.heap.size (by simp) (by simp; omega)), World.cell?_alloc_at _ _ _ _ rfl]
            exact hzr
          have ho6 := owns_grown (ho4.alloc (.cells tabA 2)) hg6 (fun k hk h => by cases hk; have := (ho4.lt cb h).1; omega)
          have hg6w : w.grownBy w6 (some cb) := grown_trans hg4w (grown_trans (World.grownBy_alloc w4 _ _) hg6)
          have hs6 := hg6w.size
          have HST6 : Hid (St w6 cb v bs) := hst6
          clear hst5 hst6 hg6 hzr hq1 ho4 hg4w HST4
          go_wp2_with (at_builtin; refine wpList_append_own _ rfl _ _ 28 rfl w.heap.size 2 i0 (.int .i64 0) 1 8 Try.underlying28 hi hz0 hz1 hz2 rfl (by decide) _ _ _ rfl (ho6.alloc _) ⟨w6.heap.size, 0, none⟩ 1 1 [.int .i64 z] rfl rfl ?d1 ?d2 ?d3 ?d4 ?d5 ?_)
          case d1 => exact one_cell w6 .i64 _ _
          case d2 => exact ints_oneCell .i64 [z]
          case d3 => unfold maxLen; omega
          case d4 => omega
          case d5 => simp; omega
          intro v7 w7 ho7 hg7 _
          have hg8 := grown_trans (World.grownBy_alloc w6 _ _) hg7
          have hg9 : w.grownBy w7 (some cb) := grown_own hg6w hg8 (fun g h => (ho6.lt g h).1)
          have HST7 : Hid (St w7 cb v bs) := st_below HST6.out (below_own5 hg8 (st_lt HST6.out) (fun g h => (ho6.lt g h).1) hcb)
          have ho8 : w7.ownsRow w.heap.size 2 1 v7 (acc ++ [z]).length (cellsInt64S (acc ++ [z])) := by simpa using ho7
          have hlen8 : (acc ++ [z]).length ≤ 40 := by rw [List.length_append, List.length_singleton]; omega
          clear ho7 hg7 hg8 ho6 hg6w
          go_wp2
          go_ret
          exact ⟨_, acc ++ [z], rfl, hlen8, ho8, HST7.out, hg9⟩
        · have hgA : w.grownBy (w4.alloc (.cells #[] 2)) (some cb) := grown_trans hg4w (World.grownBy_alloc w4 _ _)
          have HSTA : Hid (St (w4.alloc (.cells #[] 2)) cb v bs) := st_below HST4.out ((Below.refl _ _).alloc (by omega) _)
          have hoA : (w4.alloc (.cells #[] 2)).ownsRow w.heap.size 2 1 (.slice (some ⟨w4.heap.size, 0, none⟩) 0 0) 0 (cellsInt64S []) := World.ownsRow_lit w4 #[] 0 hs4 (Nat.zero_le _) rfl
          clear ho4 HST4 hg4w
          generalize hwA : w4.alloc (.cells #[] 2) = wA at hgA HSTA hoA
          have HWA := Lib.hid hwA
          clear hwA
          go_wp2
          rw [HWA.out]
          clear HWA
          go_loopw [3, 5] (fun b i wr => ∃ acc : List Int, i = .int .i64 (acc.length : Int) ∧ acc.length ≤ 33 ∧ wr.ownsRow w.heap.size 2 1 b acc.length (cellsInt64S acc) ∧ Hid (St wr cb v bs) ∧ w.grownBy wr (some cb)) (fun _ i _ => 34 - (intOf i).toNat)
          case atStart => exact ⟨[], rfl, Nat.zero_le _, hoA, HSTA, hgA⟩
          case round =>
            obtain ⟨acc2, rfl, ha2, hoB, hstB, hgB⟩ := hrel
            clear hoA HSTA hgA
            go_wp2_with fail
            refine (below_any cb v bs 2 _ hstB.out hl HZ.out (by omega)).mono ?_
            rintro e w5 ⟨r, rfl, hq0, hq1, _, hst5, hg5⟩
            have hq2 := hq1 (by omega)
            have ho5 := owns_grown hoB hg5 (fun k hk h => by cases hk; have := (hoB.lt cb h).1; omega)
            have hg5w := grown_trans hgB hg5
            have hs5 := hg5w.size
            have HST5 : Hid (St w5 cb v bs) := hst5
            obtain ⟨kk, hkk⟩ : ∃ kk, kk = acc2.length := ⟨_, rfl⟩
            have HK := Lib.hid hkk
            rw [← hkk] at ha2 ho5 ⊢
            clear hoB hstB hgB hst5 hg5 hq1 hkk
            by_cases hlt2 : (kk : Int) < 32 + r
            · go_wp2_with (at_builtin; refine wpList_append_own _ rfl _ _ 28 rfl w.heap.size 2 i0 (.int .i64 0) 1 8 Try.underlying28 hi hz0 hz1 hz2 rfl (by decide) _ _ _ rfl (ho5.alloc _) ⟨w5.heap.size, 0, none⟩ 1 1 [.int .i64 (1 + (kk : Int))] rfl rfl ?d1 ?d2 ?d3 ?d4 ?d5 ?_)
              case d1 => exact one_cell w5 .i64 _ _
              case d2 => exact ints_oneCell .i64 [1 + (kk : Int)]
              case d3 => unfold maxLen; omega
              case d4 => omega
              case d5 => simp; omega
              intro v7 w7 ho7 hg7 _
              have hg8 := grown_trans (World.grownBy_alloc w5 _ _) hg7
              have hg9 : w.grownBy w7 (some cb) := grown_own hg5w hg8 (fun g h => (ho5.lt g h).1)
              have HST7 : Hid (St w7 cb v bs) := st_below HST5.out (below_own5 hg8 (st_lt HST5.out) (fun g h => (ho5.lt g h).1) hcb)
              have ho8 : w7.ownsRow w.heap.size 2 1 v7 (acc2 ++ [1 + (kk : Int)]).length (cellsInt64S (acc2 ++ [1 + (kk : Int)])) := by
                rw [List.length_append, List.length_singleton, ← HK.out]
                simpa using ho7
              have hlen8 : (acc2 ++ [1 + (kk : Int)]).length = kk + 1 := by rw [List.length_append, List.length_singleton, ← HK.out]
              have HLEN := Lib.hid hlen8
              clear ho7 hg7 hg8 ho5 hg5w hlen8
              go_wp2
              go_roundw
              case rel => exact ⟨acc2 ++ [1 + (kk : Int)], by rw [HLEN.out]; go_num, by rw [HLEN.out]; omega, ho8, HST7, hg9⟩
              case measure => (have := HK.out; simp [intOf]; omega)
            · rw [HK.out] at ho5
              have hlen2 : acc2.length ≤ 40 := by have := HK.out; omega
              go_wp2
              go_ret
              exact ⟨_, acc2, rfl, hlen2, ho5, HST5.out, hg5w⟩
theorem lengthsT_len (c : List Int) : (lengthsT c).length ≤ 32 := by
  unfold lengthsT
  split
  · rename_i h
    have := (allIn_out h).1.2
    simpa [lengthsI, rowF] using this
  · simp
set_option maxHeartbeats 2000000 in
set_option maxRecDepth 100000 in
theorem drawLens_any (cb : Nat) (v : Value) (bs : List Int) (w : World) (hst : St w cb v bs) (hl : bs.length ≤ 4096) (hz : ∀ j, 0 ≤ bs.getD j 0 ∧ bs.getD j 0 ≤ 255) :
    Calls Try.prog 66 #[.pointer (some ⟨cb, 0, none⟩)] w fun e w' => ∃ (v' : Value) (xs : List Int), e = .returned v' ∧ xs.length ≤ 32 ∧ w'.ownsRow w.heap.size 2 1 v' xs.length (cellsInt64S xs) ∧ St w' cb v bs ∧ w.grownBy w' (some cb) := by
  have hcb := st_lt hst
  have HZ : Hid (∀ j, 0 ≤ bs.getD j 0 ∧ bs.getD j 0 ≤ 255) := hz
  clear hz
  go_enter Try.func66, Try.ntmps66
  go_wp2_with fail
  refine (draw5_any cb v bs w hst hl HZ.out).mono ?_
  rintro e w1 ⟨v1, xs, rfl, hx1, ho1, hst1, hg1⟩
  have hs1 := hg1.size
  clear hst
  go_wp2_with fail
  refine (specLengths_any v1 xs w1 (rd_owns ho1) (by omega)).mono ?_
  rintro e w2 ⟨v2, rfl, ho2, hb2⟩
  have hL := lengthsT_len xs
  generalize lengthsT xs = L at ho2 hL
  have hst2 : St w2 cb v bs := st_below hst1 (hb2.mono (by omega))
  have hg2 : w.grownBy w2 (some cb) := grown_trans hg1 (grown_bel hb2 _)
  have hlt2 := fun g h => (World.ownsRow.lt ho2 g h).1
  clear ho1 hst1 hg1 hb2
  go_wp2_with fail
  refine (once_any cb v bs 3 _ hst2 hl HZ.out (by omega)).mono ?_
  rintro e w3 ⟨b, rfl, hst3, hg3⟩
  have ho3 := owns_grown ho2 hg3 (fun k hk h => by cases hk; have := hlt2 _ h; omega)
  have hg3w := grown_trans hg2 hg3
  have hs3 := hg3w.size
  have HST3 : Hid (St w3 cb v bs) := hst3
  clear ho2 hg2 hg3 hst2 hst3
  obtain ⟨ao, cap, rfl, _⟩ : ∃ ao cap, v2 = .slice ao L.length cap ∧ True := by
    rcases ho3.2 with ⟨hv, h0⟩ | ⟨g, cap, cur, hv, _⟩
    · exact ⟨none, 0, by rw [hv, h0], trivial⟩
    · exact ⟨_, _, hv, trivial⟩
  have HO3 : Hid (w3.ownsRow w.heap.size 2 1 (.slice ao L.length cap) L.length (cellsInt64S L)) := by
    obtain ⟨h1, h2⟩ := ho3
    refine ⟨h1, ?_⟩
    rcases h2 with h2 | ⟨g, cp, cur, hv, hg, h3⟩
    · exact .inl h2
    · exact .inr ⟨g, cp, cur, hv, by omega, h3⟩
  obtain ⟨n, hn⟩ : ∃ n, n = L.length := ⟨_, rfl⟩
  have HN := Lib.hid hn
  rw [← hn] at hL ⊢
  clear ho3 hn
  cases b with
  | false =>
    go_wp2
    go_ret
    exact ⟨_, L, rfl, by rw [← HN.out]; exact hL, by rw [HN.out]; exact HO3.out, HST3.out, hg3w⟩
  | true =>
    by_cases h0 : n = 0
    · have h0D : decide ((0 : Int) < (n : Int)) = false := decide_eq_false (by omega)
      have h0E : decide (0 < n) = false := decide_eq_false (by omega)
      have h0I : ¬ (0 : Int) < (n : Int) := by omega
      have h0N : ¬ 0 < n := by omega
      clear h0
      go_wp2
      go_ret
      exact ⟨_, L, rfl, by rw [← HN.out]; exact hL, by rw [HN.out]; exact HO3.out, HST3.out, hg3w⟩
    · have h0D : decide ((0 : Int) < (n : Int)) = true := decide_eq_true (by omega)
      go_wp2_with fail
      refine (below_any cb v bs (n : Int) _ HST3.out hl HZ.out (by omega)).mono ?_
      rintro e w4 ⟨r, rfl, hr0, hr1, _, hst4, hg4⟩
      have hr2 := hr1 (by omega)
      obtain ⟨r, rfl⟩ := Int.eq_ofNat_of_zero_le hr0
      have ho4 := owns_grown HO3.out hg4 (fun k hk h => by cases hk; have := (HO3.out.lt _ h).1; omega)
      have hg4w := grown_trans hg3w hg4
      have hs4 := hg4w.size
      have hst5 : St (w4.alloc (.cells tabB 2)) cb v bs := st_below hst4 ((Below.refl _ _).alloc (by have := st_lt hst4; omega) _)
      clear HO3 HST3 hg3w hst4 hg4 hr1 hr0
      go_wp2_with fail
      refine (below_any cb v bs 6 _ hst5 hl HZ.out (by omega)).mono ?_
      rintro e w6 ⟨q, rfl, hq0, hq1, _, hst6, hg6⟩
      have hq2 := hq1 (by omega)
      obtain ⟨q, rfl⟩ := Int.eq_ofNat_of_zero_le hq0
      obtain ⟨z, hzr⟩ := tabB_get q (by omega)
      have hcell : w6.cell? ⟨w4.heap.size, q, none⟩ = some (.int .i64 z) := by
        rw [World.cell?_of_block (w := w4.alloc (.cells tabB 2)) (hg6.block w4.heap.size (by simp) (by simp; omega)), World.cell?_alloc_at _ _ _ _ rfl]
        exact hzr
      have ho6 := owns_grown (ho4.alloc (.cells tabB 2)) hg6 (fun k hk h => by cases hk; have := (ho4.lt cb h).1; omega)
      have hg6w : w.grownBy w6 (some cb) := grown_trans hg4w (grown_trans (World.grownBy_alloc w4 _ _) hg6)
      have hs6 := hg6w.size
      obtain ⟨g, hg, hgb, hgw⟩ : ∃ g, ao = some ⟨g, 0, none⟩ ∧ w.heap.size ≤ g ∧ g < w6.heap.size := by
        rcases ho6.2 with ⟨hv, hz0⟩ | ⟨g, cp, cur, hv, hg, hh, _⟩
        · have := HN.out; omega
        · simp only [Value.slice.injEq] at hv
          exact ⟨g, hv.1, hg, (Array.getElem?_eq_some_iff.1 hh).1⟩
      subst hg
      have hf6 := World.ownsRow.frozenAt ho6 r
      obtain ⟨u, hu⟩ : ∃ u, w6.cell? ⟨g, r, none⟩ = some u := by
        rw [World.ownsRow.cellAt ho6 r (by have := HN.out; omega)]
        exact ⟨_, List.getElem?_eq_getElem (by simp; have := HN.out; omega)⟩
      have hst7 := World.ownsRow.stored ho6 r (.int .i64 z)
      have hset : (cellsInt64S L).set r (.int .i64 z) = cellsInt64S (L.set r z) := by simp [cellsInt64S, List.map_set]
      rw [hset] at hst7
      have HS := Lib.hid hst7
      have HG6 := Lib.hid hg6w
      have HST6 : Hid (St w6 cb v bs) := hst6
      have hrI : (r : Int) < (n : Int) := by omega
      clear hst5 hst6 hg6 hzr hq1 ho4 hg4w ho6 hset hst7
      go_wp2
      go_ret
      refine ⟨_, L.set r z, rfl, by rw [List.length_set, ← HN.out]; exact hL, ?_, ?_, ?_⟩
      · rw [List.length_set, HN.out]; exact HS.out.1
      · exact st_below HST6.out (below_own5 HS.out.2 (st_lt HST6.out) (fun k hk => by cases hk; exact hgb) hcb)
      · exact grown_own HG6.out HS.out.2 (fun k hk => by cases hk; exact hgb)
end Go.Proofs.Ytgcpdifggjkdhab
