/- CONTRACTS: what is drawn for trees: spec.l8DrawChunks, DrawGrown, DrawLeaf: whatever the code, some texts. -/
import Derived.Test.YtdiammehnakchacGreatDrawsD
import Derived.Lib.Hide
namespace Go.Proofs.YtdiammehnakchacGreat
open Go.RowKit
set_option linter.unusedVariables false
theorem zeros_bytes8 (n : Nat) : Bytes (List.replicate n (0 : Int)) := fun x hx => by
  rw [(List.mem_replicate.1 hx).2]; omega
theorem all_snoc8 {acc : List ByteArray} {x : ByteArray} {B : Nat} (h : ∀ s ∈ acc, s.size ≤ B) (hx : x.size ≤ B) : ∀ s ∈ acc ++ [x], s.size ≤ B := fun s hs => by
  rcases List.mem_append.1 hs with h1 | h1
  · exact h s h1
  · rw [List.mem_singleton.1 h1]; exact hx
theorem below_of_own8 {w2 w3 : World} {row : Option Nat} {cb B : Nat} (hg : w2.grownBy w3 row) (hcb : cb < w2.heap.size) (hr : ∀ g, row = some g → B ≤ g) (hB : cb < B) : Below (cb + 1) w2 w3 :=
  ⟨hg.os, hg.tape, hg.output, hg.size, fun k hk => hg.block k (by omega) (fun e => by have := hr k e.symm; omega)⟩
theorem one_str8 (w : World) (s : ByteArray) (t : TypeId) : ∀ j u, ([Value.string s] : List Value)[j]? = some u → (w.alloc (.cells #[Value.string s] t)).cell? ((⟨w.heap.size, 0, none⟩ : Addr).add j) = some u := one_text w s t
set_option maxHeartbeats 2000000 in
set_option maxRecDepth 100000 in
theorem drawChunks8_any (cb : Nat) (v : Value) (bs : List Int) (w : World) (hst : St w cb v bs) (hl : bs.length ≤ 4096) (hz : ∀ j, 0 ≤ bs.getD j 0 ∧ bs.getD j 0 ≤ 255) :
    Calls Tryz.prog 46 #[.pointer (some ⟨cb, 0, none⟩)] w fun e w' => ∃ (v' : Value) (xs : List ByteArray), e = .returned v' ∧ xs.length ≤ 300 ∧ (∀ s ∈ xs, s.size ≤ 3000) ∧ w'.ownsRow w.heap.size 9 1 v' xs.length (cellsS xs) ∧ St w' cb v bs ∧ w.grownBy w' (some cb) := by
  obtain ⟨i0, hi, hz0, hz1, hz2⟩ := info_parts Tryz.infoS
  obtain ⟨j0, hj, hy0, hy1, hy2⟩ := info_parts Tryz.infoB
  have hcb := st_lt hst
  have hst0 : St (w.alloc (.cells #[] 9)) cb v bs := st_below hst ((Below.refl _ _).alloc (by omega) _)
  have HZ : Hid (∀ j, 0 ≤ bs.getD j 0 ∧ bs.getD j 0 ≤ 255) := hz
  clear hz
  go_enter Tryz.func46, Tryz.ntmps46
  go_wp2_with fail
  refine (below_any cb v bs 7 _ hst0 hl HZ.out (by omega)).mono ?_
  rintro e w1 ⟨n, rfl, hn0, hn1, _, hst1, hg1⟩
  have hg1w : w.grownBy w1 (some cb) := grown_trans (World.grownBy_alloc w _ _) hg1
  have hmade : w1.ownsRow w.heap.size 9 1 (.slice (some ⟨w.heap.size, 0, none⟩) 0 0) 0 (cellsS []) := owns_grown (World.ownsRow_lit w #[] 0 (Nat.le_refl _) (Nat.zero_le _) rfl) hg1 (fun k hk h => by cases hk; simp [Value.ownBlock] at h; omega)
  have hnm : n ≤ 7 := by have := hn1 (by omega); omega
  have HST1 : Hid (St w1 cb v bs) := hst1
  clear hst hst0 hst1 hn1 hg1
  go_wp2
  go_loopw [3, 4] (fun b q wr => ∃ (m : Int) (acc : List ByteArray), q = .int .i64 m ∧ 0 ≤ m ∧ (acc.length : Int) + m ≤ 7 ∧ Hid (∀ s ∈ acc, s.size ≤ 3000) ∧ wr.ownsRow w.heap.size 9 1 b acc.length (cellsS acc) ∧ Hid (St wr cb v bs) ∧ w.grownBy wr (some cb)) (fun _ q _ => (intOf q).toNat)
  case atStart => exact ⟨n, [], rfl, hn0, by simp; omega, fun s hs => (by cases hs), hmade, HST1, hg1w⟩
  case round =>
    obtain ⟨m, acc, rfl, hm0, hm1, hab, ho, hst2, hg2⟩ := hrel
    have hs := hg2.size
    clear hmade hg1w
    by_cases hlt : 0 < m
    · go_wp2_with fail
      refine (drawText2_any cb v bs _ hst2.out hl HZ.out).mono ?_
      rintro e w2 ⟨r, rfl, hr0, hst3, hg3⟩
      have ho2 := owns_grown ho hg3 (fun k hk h => by cases hk; have := (ho.lt cb h).1; omega)
      have hg3w := grown_trans hg2 hg3
      have hs3 := hg3w.size
      have HST3 : Hid (St w2 cb v bs) := hst3
      clear hst3 ho hg2 hg3 hst2
      go_wp2_with (at_builtin; refine wpList_append_own _ rfl _ _ 67 rfl w.heap.size 9 i0 (.string ⟨#[]⟩) 1 16 Tryz.underlying67 hi hz0 hz1 hz2 rfl (by decide) _ _ _ rfl (ho2.alloc _) ⟨w2.heap.size, 0, none⟩ 1 1 [.string r] rfl rfl ?c1 ?c2 ?c3 ?c4 ?c5 ?_)
      case c1 => exact one_str8 w2 r _
      case c2 => intro u hu; rw [List.mem_singleton.1 hu]; rfl
      case c3 => unfold maxLen; omega
      case c4 => omega
      case c5 => simp; omega
      intro v3 w3 ho3 hg4 _
      have hg5 := grown_trans (World.grownBy_alloc w2 _ _) hg4
      have hg6 : w.grownBy w3 (some cb) := grown_own hg3w hg5 (fun g h => (ho2.lt g h).1)
      have HST4 : Hid (St w3 cb v bs) := st_below HST3.out (below_of_own8 hg5 (st_lt HST3.out) (fun g h => (ho2.lt g h).1) hcb)
      have ho4 : w3.ownsRow w.heap.size 9 1 v3 (acc ++ [r]).length (cellsS (acc ++ [r])) := by simpa using ho3
      clear ho3 hg4 hg5 ho2 hg3w
      go_wp2
      go_roundw
      case rel => exact ⟨m - 1, acc ++ [r], by go_num, by omega, by rw [List.length_append, List.length_singleton]; omega, all_snoc8 hab.out (by omega), ho4, HST4, hg6⟩
      case measure => simp [intOf]; omega
    · go_wp2_with fail
      refine (once_any cb v bs 24 _ hst2.out hl HZ.out (by omega)).mono ?_
      rintro e w2 ⟨b, rfl, hst3, hg3⟩
      have ho2 := owns_grown ho hg3 (fun k hk h => by cases hk; have := (ho.lt cb h).1; omega)
      have hg3w := grown_trans hg2 hg3
      have hs3 := hg3w.size
      have HST3 : Hid (St w2 cb v bs) := hst3
      have hlen : acc.length ≤ 300 := by omega
      clear ho hg2 hg3 hst2 hst3
      cases b with
      | false =>
        go_wp2
        go_ret
        exact ⟨_, acc, rfl, hlen, hab.out, ho2, HST3.out, hg3w⟩
      | true =>
        go_wp2_with fail
        refine (below_any cb v bs 2 _ HST3.out hl HZ.out (by omega)).mono ?_
        rintro e w4 ⟨r, rfl, hr0, hr1, _, hst4, hg4⟩
        have hr2 := hr1 (by omega)
        have ho4 := owns_grown ho2 hg4 (fun k hk h => by cases hk; have := (ho2.lt cb h).1; omega)
        have hg4w := grown_trans hg3w hg4
        have hs4 := hg4w.size
        have HST4 : Hid (St w4 cb v bs) := hst4
        clear ho2 hg3w hg4 hst4 HST3 hr1
        rcases (show r = 0 ∨ r = 1 by omega) with rfl | rfl
        · go_wp2_with fail
          refine (below_any cb v bs 2 _ HST4.out hl HZ.out (by omega)).mono ?_
          rintro e w6 ⟨q, rfl, hq0, hq1, _, hst6, hg6⟩
          have hq2 := hq1 (by omega)
          obtain ⟨q, rfl⟩ := Int.eq_ofNat_of_zero_le hq0
          have hg6w := grown_trans hg4w hg6
          have hs6 := hg6w.size
          have HST6 : Hid (St w6 cb v bs) := hst6
          have hql : q ≤ 1 := by omega
          clear hst6 hg6 hq1 ho4 hg4w HST4
          go_wp2_with (at_make; refine wpList_make_full _ rfl _ _ 67 rfl w.heap.size 9 i0 (.string ⟨#[]⟩) 1 Tryz.underlying67 hi hz0 hz1 _ _ _ _ (64 + q) rfl rfl (by omega) (by omega) (by rw [hz2]; omega) (by unfold maxLen; omega) ?e1 ?_)
          case e1 => exact hs6
          intro w7 ho7 hg7
          have hg9 : w.grownBy w7 (some cb) := grown_own hg6w hg7 (fun g h => by cases h)
          have HST7 : Hid (St w7 cb v bs) := st_below HST6.out (below_of_own8 (B := w.heap.size) hg7 (st_lt HST6.out) (fun g h => by cases h) hcb)
          have ho8 : w7.ownsRow w.heap.size 9 1 (.slice (some ⟨w6.heap.size, 0, none⟩) (64 + q) (64 + q)) (List.replicate (64 + q) (⟨#[]⟩ : ByteArray)).length (cellsS (List.replicate (64 + q) (⟨#[]⟩ : ByteArray))) := by
            rw [List.length_replicate]
            have h := ho7
            rw [toList_madeCells_one] at h
            simpa using h
          have hlen8 : (List.replicate (64 + q) (⟨#[]⟩ : ByteArray)).length ≤ 300 := by rw [List.length_replicate]; omega
          clear ho7 hg7 hg6w
          go_wp2
          go_ret
          exact ⟨_, _, rfl, hlen8, fun s hs => by rw [(List.mem_replicate.1 hs).2]; exact Nat.zero_le _, ho8, HST7.out, hg9⟩
        · go_wp2_with fail
          refine (below_any cb v bs 2 _ HST4.out hl HZ.out (by omega)).mono ?_
          rintro e w6 ⟨q, rfl, hq0, hq1, _, hst6, hg6⟩
          have hq2 := hq1 (by omega)
          obtain ⟨q, rfl⟩ := Int.eq_ofNat_of_zero_le hq0
          have ho6 := owns_grown ho4 hg6 (fun k hk h => by cases hk; have := (ho4.lt cb h).1; omega)
          have hg6w := grown_trans hg4w hg6
          have hs6 := hg6w.size
          have HST6 : Hid (St w6 cb v bs) := hst6
          have hql : q ≤ 1 := by omega
          clear hst6 hg6 hq1 ho4 hg4w HST4
          go_wp2_with (at_make; refine wpList_make_full _ rfl _ _ 22 rfl w.heap.size 5 j0 (.int .u8 0) 1 Tryz.underlying22 hj hy0 hy1 _ _ _ _ (1999 + q) rfl rfl (by omega) (by omega) (by rw [hy2]; omega) (by unfold maxLen; omega) ?e1 ?_)
          case e1 => exact hs6
          intro w7 ho7 hg7
          have hg7w : w.grownBy w7 (some cb) := grown_own hg6w hg7 (fun g h => by cases h)
          have HST7 : Hid (St w7 cb v bs) := st_below HST6.out (below_of_own8 (B := w.heap.size) hg7 (st_lt HST6.out) (fun g h => by cases h) hcb)
          have hso : w7.ownsRow w.heap.size 9 1 _ acc.length (cellsS acc) := owns_grown ho6 hg7 (fun k hk => by cases hk)
          have ho8 : w7.ownsRow w.heap.size 5 1 (.slice (some ⟨w6.heap.size, 0, none⟩) (1999 + q) (1999 + q)) (List.replicate (1999 + q) (0 : Int)).length (cellsByteS (List.replicate (1999 + q) 0)) := by
            rw [List.length_replicate]
            have h := ho7
            rw [toList_madeCells_one] at h
            simpa using h
          have hstr := str_own ho8 (zeros_bytes8 _)
          obtain ⟨x, hx⟩ : ∃ x, x = asB (List.replicate (1999 + q) (0 : Int)) := ⟨_, rfl⟩
          rw [← hx] at hstr
          have hxs : x.size ≤ 3000 := by rw [hx, asB_size, List.length_replicate]; omega
          have hs7 := hg7w.size
          clear ho7 hg7 hg6w ho8 ho6 hx HST6
          go_wp2_with (at_builtin; refine wpList_append_own _ rfl _ _ 67 rfl w.heap.size 9 i0 (.string ⟨#[]⟩) 1 16 Tryz.underlying67 hi hz0 hz1 hz2 rfl (by decide) _ _ _ rfl (hso.alloc _) ⟨w7.heap.size, 0, none⟩ 1 1 [.string x] rfl rfl ?d1 ?d2 ?d3 ?d4 ?d5 ?_)
          case d1 => exact one_str8 w7 x _
          case d2 => intro u hu; rw [List.mem_singleton.1 hu]; rfl
          case d3 => unfold maxLen; omega
          case d4 => omega
          case d5 => simp; omega
          intro v9 w9 ho9 hg9 _
          have hg10 := grown_trans (World.grownBy_alloc w7 _ _) hg9
          have hg11 : w.grownBy w9 (some cb) := grown_own hg7w hg10 (fun g h => (hso.lt g h).1)
          have HST9 : Hid (St w9 cb v bs) := st_below HST7.out (below_of_own8 hg10 (st_lt HST7.out) (fun g h => (hso.lt g h).1) hcb)
          have ho10 : w9.ownsRow w.heap.size 9 1 v9 (acc ++ [x]).length (cellsS (acc ++ [x])) := by simpa using ho9
          have hlen8 : (acc ++ [x]).length ≤ 300 := by rw [List.length_append, List.length_singleton]; omega
          clear ho9 hg9 hg10 hso hg7w
          go_wp2
          go_ret
          exact ⟨_, acc ++ [x], rfl, hlen8, all_snoc8 hab.out hxs, ho10, HST9.out, hg11⟩
theorem drawLeaf_any (va : Value) (bs : List Int) (w : World) (ha : Rd w va (cellsByteS bs)) (hl : bs.length ≤ 4096) (hz : Bytes bs) :
    Calls Tryz.prog 11 #[va] w fun e w' => ∃ s : ByteArray, e = .returned (.string s) ∧ s.size ≤ 5 ∧ Below w.heap.size w w' := by
  have HZ := Lib.hid (code_all hz)
  go_enter Tryz.func11, Tryz.ntmps11
  go_wp2_with fail
  refine (new_any va bs w ha hl HZ.out).mono ?_
  rintro e w1 ⟨rfl, hst1, hb1, hs1⟩
  go_wp2_with fail
  refine (drawText_any w.heap.size va bs 5 w1 hst1 hl HZ.out (by omega) (by omega)).mono ?_
  rintro e w2 ⟨s, rfl, hs5, _, hg2⟩
  have HB := Lib.hid (hb1.grown hg2 hb1.size (fun k hk => by cases hk; exact Nat.le_refl _))
  clear hst1 hb1 hg2 ha hz
  go_wp2
  go_ret
  exact ⟨s, rfl, by omega, HB.out⟩
set_option maxHeartbeats 2000000 in
set_option maxRecDepth 100000 in
theorem drawBranch_any (va : Value) (bs : List Int) (w : World) (ha : Rd w va (cellsByteS bs)) (hl : bs.length ≤ 4096) (hz : Bytes bs) :
    Calls Tryz.prog 9 #[va] w fun e w' => ∃ (v : Value) (ds : List Int), e = .returned v ∧ ds.length ≤ 7 ∧ (∀ d ∈ ds, -1 ≤ d ∧ d ≤ 2147483647) ∧ Rd w' v (cellsInt64S ds) ∧ Below w.heap.size w w' := by
  obtain ⟨i0, hi, hz0, hz1, hz2⟩ := info_parts Tryz.info64
  have HZ := Lib.hid (code_all hz)
  go_enter Tryz.func9, Tryz.ntmps9
  go_wp2_with fail
  refine (new_any va bs w ha hl HZ.out).mono ?_
  rintro e w1 ⟨rfl, hst1, hb1, hs1⟩
  obtain ⟨cb, hcb⟩ : ∃ cb, cb = w.heap.size := ⟨_, rfl⟩
  have HCB : Hid (cb = w.heap.size) := hcb
  have ho1 : (w1.alloc (.cells #[] 2)).ownsRow (cb + 1) 2 1 (.slice (some ⟨w1.heap.size, 0, none⟩) 0 0) 0 (cellsInt64S []) := World.ownsRow_lit (base := cb + 1) (e := 2) (size := 1) w1 #[] 0 (by omega) (Nat.zero_le _) rfl
  have hst2 : St (w1.alloc (.cells #[] 2)) cb va bs := by rw [hcb]; exact st_below hst1 ((Below.refl _ _).alloc (by omega) _)
  have hb2 : Below cb w (w1.alloc (.cells #[] 2)) := by rw [hcb]; exact hb1.alloc hb1.size _
  rw [← hcb]
  clear hst1 hb1 hs1 ha hz hcb
  go_wp2_with fail
  refine (below_any cb va bs 6 _ hst2 hl HZ.out (by omega)).mono ?_
  rintro e w2 ⟨n, rfl, hn0, hn1, _, hst3, hg3⟩
  have hn2 := hn1 (by omega)
  have ho3 := owns_grown ho1 hg3 (fun k hk h => by cases hk; have := (ho1.lt cb h).1; omega)
  have hb3 : Below cb w w2 := hb2.grown hg3 (by have := st_lt hst2; omega) (fun k hk => by cases hk; exact Nat.le_refl _)
  clear hn1 ho1 hst2 hb2 hg3
  go_wp2
  go_loopw [4, 5] (fun b q wr => ∃ (m : Int) (acc : List Int), q = .int .i64 m ∧ 0 ≤ m ∧ (acc.length : Int) + m ≤ 6 ∧ Hid (∀ d ∈ acc, -1 ≤ d ∧ d ≤ 2147483647) ∧ wr.ownsRow (cb + 1) 2 1 b acc.length (cellsInt64S acc) ∧ Hid (St wr cb va bs) ∧ Below cb w wr) (fun _ q _ => (intOf q).toNat)
  case atStart => exact ⟨n, [], rfl, hn0, by simp; omega, fun s hs => (by cases hs), ho3, hst3, hb3⟩
  case round =>
    rename World => wr
    obtain ⟨m, acc, rfl, hm0, hm1, hab, ho, hst, hb⟩ := hrel
    clear ho3 hst3 hb3
    have hcbs := st_lt hst.out
    by_cases hlt : 0 < m
    · go_wp2_with fail
      refine (below_any cb va bs 3000 _ hst.out hl HZ.out (by omega)).mono ?_
      rintro e w4 ⟨r, rfl, hr0, hr1, _, hst4, hg4⟩
      have hr2 := hr1 (by omega)
      have ho4 := owns_grown ho hg4 (fun k hk h => by cases hk; have := (ho.lt cb h).1; omega)
      have hb4 := hb.grown hg4 (by omega) (fun k hk => by cases hk; exact Nat.le_refl _)
      have hs4 := hg4.size
      have HST4 := Lib.hid hst4
      clear hr1 ho hst hb hg4 hst4
      go_wp2_with (at_builtin; refine wpList_append_own _ rfl _ _ 25 rfl (cb + 1) 2 i0 (.int .i64 0) 1 8 Tryz.underlying25 hi hz0 hz1 hz2 rfl (by decide) _ _ _ rfl (ho4.alloc _) ⟨w4.heap.size, 0, none⟩ 1 1 [.int .i64 (1 + r)] rfl rfl (one_cell w4 .i64 _ _) (ints_oneCell .i64 [1 + r]) (by unfold maxLen; omega) (by omega) (by rw [World.size_alloc]; omega) ?_)
      intro v5 w5 ho5 hg5 _
      have hg6 := grown_trans (World.grownBy_alloc w4 _ _) hg5
      have hb5 := hb4.grown hg6 (by omega) (fun k hk => by have := (ho4.lt k hk).1; omega)
      have HST5 := Lib.hid (st_below HST4.out (below_of_own8 hg6 (st_lt HST4.out) (fun g h => (ho4.lt g h).1) (by omega)))
      have ho6 : w5.ownsRow (cb + 1) 2 1 v5 (acc ++ [1 + r]).length (cellsInt64S (acc ++ [1 + r])) := by simpa using ho5
      have hall : Hid (∀ d ∈ acc ++ [1 + r], -1 ≤ d ∧ d ≤ 2147483647) := fun d hd => by
        rcases List.mem_append.1 hd with h | h
        · exact hab.out d h
        · rw [List.mem_singleton.1 h]; omega
      clear ho5 hg5 hg6 ho4 hb4 HST4
      go_wp2
      go_roundw
      case rel => exact ⟨m - 1, acc ++ [1 + r], by go_num, by omega, by rw [List.length_append, List.length_singleton]; omega, hall, ho6, HST5, hb5⟩
      case measure => simp [intOf]; omega
    · go_wp2_with fail
      refine (once_any cb va bs 10 _ hst.out hl HZ.out (by omega)).mono ?_
      rintro e w4 ⟨o, rfl, hst4, hg4⟩
      have ho4 := owns_grown ho hg4 (fun k hk h => by cases hk; have := (ho.lt cb h).1; omega)
      have hb4 := hb.grown hg4 (by omega) (fun k hk => by cases hk; exact Nat.le_refl _)
      have hs4 := hg4.size
      have HST4 := Lib.hid hst4
      clear ho hst hb hg4 hst4
      cases o with
      | false =>
        have HR := Lib.hid (rd_owns ho4)
        have HB : Hid (Below w.heap.size w w4) := by show Below _ _ _; rw [← HCB.out]; exact hb4
        clear ho4 hb4
        go_wp2
        go_ret
        exact ⟨_, acc, rfl, by omega, hab.out, HR.out, HB.out⟩
      | true =>
        have hcells := heap_alloc_new w4 (.cells #[.int .i64 0, .int .i64 (-1), .int .i64 2147483646, .int .i64 2147483647] 2)
        have hst5 := st_below HST4.out ((Below.refl (cb + 1) w4).alloc (by omega) (.cells #[.int .i64 0, .int .i64 (-1), .int .i64 2147483646, .int .i64 2147483647] 2))
        have hb5 := hb4.alloc (by omega) (.cells #[.int .i64 0, .int .i64 (-1), .int .i64 2147483646, .int .i64 2147483647] 2)
        have ho5 := ho4.alloc (.cells #[.int .i64 0, .int .i64 (-1), .int .i64 2147483646, .int .i64 2147483647] 2)
        clear ho4 hb4
        go_wp2_with fail
        refine (below_any cb va bs 4 _ hst5 hl HZ.out (by omega)).mono ?_
        rintro e w6 ⟨r, rfl, hr0, hr1, _, _, hg6⟩
        have hr2 := hr1 (by omega)
        obtain ⟨r, rfl⟩ := Int.eq_ofNat_of_zero_le hr0
        have hh6 := (hg6.block w4.heap.size (by rw [World.size_alloc]; omega) (by simp; omega)).trans hcells
        have ho6 := owns_grown ho5 hg6 (fun k hk h => by cases hk; have := (ho5.lt cb h).1; omega)
        have hb6 := hb5.grown hg6 (by rw [World.size_alloc]; omega) (fun k hk => by cases hk; exact Nat.le_refl _)
        have hs6 := hg6.size
        rw [World.size_alloc] at hs6
        obtain ⟨x, hx, hx64⟩ : ∃ x : Int, (#[Value.int .i64 0, .int .i64 (-1), .int .i64 2147483646, .int .i64 2147483647] : Array Value)[r]? = some (.int .i64 x) ∧ (-1 ≤ x ∧ x ≤ 2147483647) := by
          rcases (show r = 0 ∨ r = 1 ∨ r = 2 ∨ r = 3 by omega) with rfl | rfl | rfl | rfl
          · exact ⟨0, rfl, by omega, by omega⟩
          · exact ⟨-1, rfl, by omega, by omega⟩
          · exact ⟨2147483646, rfl, by omega, by omega⟩
          · exact ⟨2147483647, rfl, by omega, by omega⟩
        have c0 : w6.cell? ⟨w4.heap.size, r, none⟩ = some (.int .i64 x) := by rw [cell_of_row w6 w4.heap.size r _ _ (0, 0) hh6]; exact hx
        have hall : Hid (∀ d ∈ acc ++ [x], -1 ≤ d ∧ d ≤ 2147483647) := fun d hd => by
          rcases List.mem_append.1 hd with h | h
          · exact hab.out d h
          · rw [List.mem_singleton.1 h]; exact hx64
        have hr4 : r < 4 := by omega
        clear hx hx64 hh6 hcells hst5 hb5 ho5 hg6 hr1 hr2 hr0
        go_wp2_with (at_builtin; refine wpList_append_own _ rfl _ _ 25 rfl (cb + 1) 2 i0 (.int .i64 0) 1 8 Tryz.underlying25 hi hz0 hz1 hz2 rfl (by decide) _ _ _ rfl (ho6.alloc _) ⟨w6.heap.size, 0, none⟩ 1 1 [.int .i64 x] rfl rfl (one_cell w6 .i64 _ _) (ints_oneCell .i64 [x]) (by unfold maxLen; omega) (by omega) (by rw [World.size_alloc]; omega) ?_)
        intro v7 w7 ho7 hg7 _
        have hg8 := grown_trans (World.grownBy_alloc w6 _ _) hg7
        have hb8 := hb6.grown hg8 (by omega) (fun k hk => by have := (ho6.lt k hk).1; omega)
        have ho8 : w7.ownsRow (cb + 1) 2 1 v7 (acc ++ [x]).length (cellsInt64S (acc ++ [x])) := by simpa using ho7
        have HR := Lib.hid (rd_owns ho8)
        have HB : Hid (Below w.heap.size w w7) := by show Below _ _ _; rw [← HCB.out]; exact hb8
        have hl7 : (acc ++ [x]).length ≤ 7 := by rw [List.length_append, List.length_singleton]; omega
        clear ho7 hg7 hg8 ho6 hb6 hb8 ho8
        go_wp2
        go_ret
        exact ⟨_, _, rfl, hl7, hall.out, HR.out, HB.out⟩
end Go.Proofs.YtdiammehnakchacGreat
