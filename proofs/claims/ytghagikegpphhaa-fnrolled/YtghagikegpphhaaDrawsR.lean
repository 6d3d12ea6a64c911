/- CONTRACTS: spec.l3DrawWindow, DrawRoll, DrawPower, DrawRolls, DrawRolled: whatever the code, some texts and numbers. -/
import Derived.Test.YtghagikegpphhaaDraw
import Derived.Test.YtghagikegpphhaaRoll
namespace Go.Proofs.Ytghagikegpphhaa
open Go.RowKit

theorem codeR {bs : List Int} (h : Bytes bs) : ∀ j, 0 ≤ bs.getD j 0 ∧ bs.getD j 0 ≤ 255 := bytes_get h
/-- a number that 64 bits hold -/
abbrev I64 (n : Int) : Prop := -9223372036854775808 ≤ n ∧ n ≤ 9223372036854775807

abbrev winC : Array Value := #[.int .i64 (-1), .int .i64 0, .int .i64 16, .int .i64 17, .int .i64 (-9223372036854775808)]
theorem winC_get (j : Nat) (h : j < 5) : ∃ z, winC[j]? = some (.int .i64 z) ∧ I64 z := by
  rcases (show j = 0 ∨ j = 1 ∨ j = 2 ∨ j = 3 ∨ j = 4 by omega) with rfl | rfl | rfl | rfl | rfl <;> exact ⟨_, rfl, by decide⟩
abbrev hC : Array Value := #[.int .i64 (-1), .int .i64 65520, .int .i64 65521]
theorem hC_get (j : Nat) (h : j < 3) : ∃ z, hC[j]? = some (.int .i64 z) ∧ I64 z := by
  rcases (show j = 0 ∨ j = 1 ∨ j = 2 by omega) with rfl | rfl | rfl <;> exact ⟨_, rfl, by decide⟩
abbrev oC : Array Value := #[.int .i64 (-1), .int .i64 256]
theorem oC_get (j : Nat) (h : j < 2) : ∃ z, oC[j]? = some (.int .i64 z) ∧ I64 z := by
  rcases (show j = 0 ∨ j = 1 by omega) with rfl | rfl <;> exact ⟨_, rfl, by decide⟩
abbrev iC : Array Value := #[.int .i64 (-1), .int .i64 256, .int .i64 4611686018427387904]
theorem iC_get (j : Nat) (h : j < 3) : ∃ z, iC[j]? = some (.int .i64 z) ∧ I64 z := by
  rcases (show j = 0 ∨ j = 1 ∨ j = 2 by omega) with rfl | rfl | rfl <;> exact ⟨_, rfl, by decide⟩
theorem oneR (W : World) (z : Int) (h : 0 ≤ z ∧ z ≤ 255) : (convert 22 9 (.slice (some ⟨W.heap.size, 0, none⟩) 1 1)).run Try.prog (W.alloc (.cells #[.int .u8 z] 5)) = .ok (.string (asB [z])) (W.alloc (.cells #[.int .u8 z] 5)) :=
  str_of (W.alloc (.cells #[.int .u8 z] 5)) W.heap.size 0 1 1 [z] (fun x hx => by rw [List.mem_singleton.1 hx]; exact h) (Nat.le_refl _) (fun j hj => by
    have hj' : j = 0 := by simpa using hj
    subst hj'
    simp)
/-- a cell of a table that lay when a cursor went on -/
theorem tab_cell {w2 w3 : World} {Tb : Array Value} {t : TypeId} {cb j : Nat} {u : Value} (hg : (w2.alloc (.cells Tb t)).grownBy w3 (some cb)) (hcb : cb < w2.heap.size) (h : Tb[j]? = some u) : w3.cell? ⟨w2.heap.size, j, none⟩ = some u := by
  rw [World.cell?_of_block (w := w2.alloc (.cells Tb t)) (hg.block w2.heap.size (by simp) (by simp; omega)), World.cell?_alloc_at _ _ _ _ rfl]
  exact h

set_option maxRecDepth 100000 in
theorem drawWindow_any (cb : Nat) (v : Value) (bs : List Int) (w : World) (hst : St w cb v bs) (hl : bs.length ≤ 4096) (hz : ∀ j, 0 ≤ bs.getD j 0 ∧ bs.getD j 0 ≤ 255) :
    Calls Try.prog 67 #[.pointer (some ⟨cb, 0, none⟩)] w fun e w' => ∃ n : Int, e = .returned (.int .i64 n) ∧ I64 n ∧ St w' cb v bs ∧ w.grownBy w' (some cb) := by
  have hcb := st_lt hst
  go_enter Try.func67, Try.ntmps67
  go_wp2_with fail
  refine (once_any cb v bs 8 w hst hl hz (by omega)).mono ?_
  rintro e w2 ⟨b, rfl, hst2, hg2⟩
  have hs2 := hg2.size
  cases b with
  | true =>
    have hst2' := st_below hst2 ((Below.refl (cb + 1) w2).alloc (by omega) (.cells winC 2))
    go_wp2_with fail
    refine (below_any cb v bs 5 _ hst2' hl hz (by omega)).mono ?_
    rintro e w3 ⟨r, rfl, hr0, hr1, _, hst3, hg3⟩
    have hr2 := hr1 (by omega)
    obtain ⟨r, rfl⟩ := Int.eq_ofNat_of_zero_le hr0
    obtain ⟨z, hzr, hzi⟩ := winC_get r (by omega)
    have hcell := tab_cell hg3 (by omega) hzr
    have HG : Hid (w.grownBy w3 (some cb)) := grown_trans hg2 (grown_trans (World.grownBy_alloc w2 _ _) hg3)
    have HST : Hid (St w3 cb v bs) := hst3
    clear hst hst2 hst2' hst3 hg2 hg3 hzr hz
    go_wp2
    go_ret
    exact ⟨_, rfl, hzi, HST.out, HG.out⟩
  | false =>
    go_wp2_with fail
    refine (below_any cb v bs 5 w2 hst2 hl hz (by omega)).mono ?_
    rintro e w3 ⟨r, rfl, hr0, hr1, _, hst3, hg3⟩
    have hr2 := hr1 (by omega)
    have HG : Hid (w.grownBy w3 (some cb)) := grown_trans hg2 hg3
    have HST : Hid (St w3 cb v bs) := hst3
    clear hst hst2 hst3 hg2 hg3 hz
    go_wp2
    go_ret
    exact ⟨_, rfl, ⟨by omega, by omega⟩, HST.out, HG.out⟩

set_option maxRecDepth 100000 in
theorem drawRoll_any (va : Value) (bs : List Int) (w : World) (ha : Rd w va (cellsByteS bs)) (hl : bs.length ≤ 4096) (hz : Bytes bs) :
    Calls Try.prog 40 #[va] w fun e w' => ∃ t : ByteArray, e = .returned (.string t) ∧ t.size ≤ 20 ∧ Below w.heap.size w w' := by
  go_enter Try.func40, Try.ntmps40
  go_wp2_with fail
  refine (new_any va bs w ha hl (codeR hz)).mono ?_
  rintro e w1 ⟨rfl, hst1, hb1, hs1⟩
  go_wp2_with fail
  refine (drawText_any w.heap.size va bs 20 w1 hst1 hl (codeR hz) (by omega) (by omega)).mono ?_
  rintro e w3 ⟨t, rfl, ht, hst3, hg3⟩
  have hb3 : Below w.heap.size w w3 := hb1.grown hg3 hb1.size (fun k hk => by cases hk; exact Nat.le_refl _)
  clear hst1 hst3 hg3 hb1 ha hz
  go_wp2
  go_ret
  exact ⟨_, rfl, by omega, hb3⟩

set_option maxRecDepth 100000 in
theorem drawPower_any (va : Value) (bs : List Int) (w : World) (ha : Rd w va (cellsByteS bs)) (hl : bs.length ≤ 4096) (hz : Bytes bs) :
    Calls Try.prog 41 #[va] w fun e w' => ∃ n : Int, e = .returned (.int .i64 n) ∧ I64 n ∧ Below w.heap.size w w' := by
  go_enter Try.func41, Try.ntmps41
  go_wp2_with fail
  refine (new_any va bs w ha hl (codeR hz)).mono ?_
  rintro e w1 ⟨rfl, hst1, hb1, hs1⟩
  go_wp2_with fail
  refine (drawWindow_any w.heap.size va bs w1 hst1 hl (codeR hz)).mono ?_
  rintro e w3 ⟨n, rfl, hn, hst3, hg3⟩
  have hb3 : Below w.heap.size w w3 := hb1.grown hg3 hb1.size (fun k hk => by cases hk; exact Nat.le_refl _)
  clear hst1 hst3 hg3 hb1 ha hz
  go_wp2
  go_ret
  exact ⟨_, rfl, hn, hb3⟩

set_option maxRecDepth 100000 in
theorem drawRolls_any (va : Value) (bs : List Int) (w : World) (ha : Rd w va (cellsByteS bs)) (hl : bs.length ≤ 4096) (hz : Bytes bs) :
    Calls Try.prog 37 #[va] w fun e w' => ∃ (s : ByteArray) (n : Int), e = .returned (.tuple #[.string s, .int .i64 n]) ∧ s.size ≤ 12 ∧ I64 n ∧ Below w.heap.size w w' := by
  go_enter Try.func37, Try.ntmps37
  go_wp2_with fail
  refine (new_any va bs w ha hl (codeR hz)).mono ?_
  rintro e w1 ⟨rfl, hst1, hb1, hs1⟩
  go_wp2_with fail
  refine (drawText_any w.heap.size va bs 12 w1 hst1 hl (codeR hz) (by omega) (by omega)).mono ?_
  rintro e w3 ⟨t, rfl, ht, hst3, hg3⟩
  have hb3 : Below w.heap.size w w3 := hb1.grown hg3 hb1.size (fun k hk => by cases hk; exact Nat.le_refl _)
  clear hst1 hg3 hb1 ha
  go_wp2_with fail
  refine (drawWindow_any w.heap.size va bs w3 hst3 hl (codeR hz)).mono ?_
  rintro e w4 ⟨n, rfl, hn, hst4, hg4⟩
  have hb4 : Below w.heap.size w w4 := hb3.grown hg4 hb3.size (fun k hk => by cases hk; exact Nat.le_refl _)
  clear hst3 hst4 hg4 hb3 hz
  go_wp2
  go_ret2
  exact ⟨_, _, rfl, by omega, hn, hb4⟩

theorem results_tmp4 {fn : Func} {t u v x : Tmp} (h : fn.results = #[.tmp t, .tmp u, .tmp v, .tmp x]) (tmps : Array Value) (P : Program) (w : World) :
    (results fn tmps).run P w = .ok (.tuple #[tmps.getD t undef, tmps.getD u undef, tmps.getD v undef, tmps.getD x undef]) w := by
  simp [results, h]

theorem text_cases (s : ByteArray) : s.toList.isEmpty = true ∨ (s.toList.isEmpty = false ∧ 0 < s.size) := by
  have hl : s.toList.length = s.size := by rw [ByteArray.toList_eq]; rfl
  cases h : s.toList with
  | nil => exact .inl rfl
  | cons x r => exact .inr ⟨rfl, by rw [h] at hl; simp at hl; omega⟩

set_option maxHeartbeats 2000000 in
set_option maxRecDepth 100000 in
theorem drawRolled_any (va : Value) (bs : List Int) (w : World) (ha : Rd w va (cellsByteS bs)) (hl : bs.length ≤ 4096) (hz : Bytes bs) :
    Calls Try.prog 39 #[va] w fun e w' => ∃ h o i n : Int, e = .returned (.tuple #[.int .i64 h, .int .i64 o, .int .i64 i, .int .i64 n]) ∧ I64 n ∧ Below w.heap.size w w' := by
  have HZ : Hid (∀ j, 0 ≤ bs.getD j 0 ∧ bs.getD j 0 ≤ 255) := codeR hz
  go_enter Try.func39, Try.ntmps39
  go_wp2_with fail
  refine (new_any va bs w ha hl HZ.out).mono ?_
  rintro e w1 ⟨rfl, hst1, hb1, hs1⟩
  clear ha hz
  go_wp2_with fail
  refine (drawWindow_any w.heap.size va bs w1 hst1 hl HZ.out).mono ?_
  rintro e w2 ⟨n, rfl, hn, hst2, hg2⟩
  have hb2 : Below w.heap.size w w2 := hb1.grown hg2 hb1.size (fun k hk => by cases hk; exact Nat.le_refl _)
  have HST2 : Hid (St w2 w.heap.size va bs) := hst2
  have hs2 := hg2.size
  obtain ⟨hn0, hn1⟩ := hn
  clear hst1 hst2 hg2 hb1
  go_wp2
  go_loopw [8, 9] (fun q i wr => ∃ (k : Nat) (s : ByteArray), k ≤ 16 ∧ q = .string s ∧ i = .int .i64 k ∧ s.size ≤ k ∧ Hid (St wr w.heap.size va bs) ∧ Below w.heap.size w wr ∧ w.heap.size < wr.heap.size) (fun _ i _ => 16 - (intOf i).toNat)
  case atStart => exact ⟨0, ⟨#[]⟩, by omega, rfl, rfl, Nat.le_refl _, HST2, hb2, by omega⟩
  case round =>
    obtain ⟨k, s, hk, rfl, rfl, hsk, hst, hb, hsz⟩ := hrel
    clear hb2 HST2
    by_cases hgo : (k : Int) < n ∧ (k : Int) < 16
    · obtain ⟨hgo1, hgo2⟩ := hgo
      go_wp2_with fail
      refine (byte_any w.heap.size va bs _ hst.out hl HZ.out).mono ?_
      rintro e w3 ⟨r, rfl, hr0, hr1, hst3, hg3⟩
      have hb3 : Below w.heap.size w w3 := hb.grown hg3 hb.size (fun k hk => by cases hk; exact Nat.le_refl _)
      have hs3 := hg3.size
      have hone := oneR w3 r ⟨hr0, hr1⟩
      have ha1 : (asB [r]).size = 1 := by rw [asB_size]; rfl
      have hadd : ∀ W : World, (Op.stringOp .add s (asB [r])).run Try.prog W = .ok (.string (s ++ asB [r])) W := fun W => run_string_add_sum W _ _ (by omega)
      have hsz2 : (s ++ asB [r]).size ≤ k + 1 := by rw [ByteArray.size_append]; omega
      obtain ⟨t, ht⟩ : ∃ t, t = asB [r] := ⟨_, rfl⟩
      rw [← ht] at hone ha1 hadd hsz2
      have hb4 : Below w.heap.size w (w3.alloc (.cells #[.int .u8 r] 5)) := hb3.alloc (by omega) _
      have HST4 : Hid (St (w3.alloc (.cells #[.int .u8 r] 5)) w.heap.size va bs) := st_below hst3 ((Below.refl _ _).alloc (by omega) _)
      clear ht hst hst3 hg3 hb hb3
      go_wp2
      go_roundw
      case rel => exact ⟨k + 1, s ++ t, by omega, rfl, by go_num, hsz2, HST4, hb4, by simp; omega⟩
      case measure => simp [intOf]; omega
    · have hgb : (decide ((k : Int) < n) && decide ((k : Int) < 16)) = false := by simp; omega
      have hst0 := hst.out
      have hri := roll_in s
      have hcase : ((k : Int) < n ∧ ¬ (k : Int) < 16) ∨ ¬ (k : Int) < n := by omega
      clear hgb
      rcases hcase with ⟨hg1, hg2⟩ | hg1
      all_goals
        clear hgo hst
        go_wp2_with fail
        refine (specRoll_any s _ (by omega)).mono ?_
        rintro e u1 ⟨rfl, hu1⟩
        replace hu1 := hu1.symm
        subst hu1
        obtain ⟨h, hh⟩ : ∃ h, h = roll s := ⟨_, rfl⟩
        rw [← hh]
        clear hh hri
        go_wp2_with fail
        refine (byte_any w.heap.size va bs wr hst0 hl HZ.out).mono ?_
        rintro e w4 ⟨o, rfl, ho0, ho1, hst4, hg4⟩
        have hb4 : Below w.heap.size w w4 := hb.grown hg4 hb.size (fun k hk => by cases hk; exact Nat.le_refl _)
        have hs4 := hg4.size
        clear hst0 hg4 hb
        rcases text_cases s with hes | ⟨hes, hsp⟩
        all_goals
          go_wp2_with fail
          refine (byte_any w.heap.size va bs w4 hst4 hl HZ.out).mono ?_
          rintro e w5 ⟨i, rfl, hi0, hi1, hst5, hg5⟩
          have hb5 : Below w.heap.size w w5 := hb4.grown hg5 hb4.size (fun k hk => by cases hk; exact Nat.le_refl _)
          have hs5 := hg5.size
          clear hst4 hg5 hb4
          go_wp2_with fail
          refine (once_any w.heap.size va bs 12 w5 hst5 hl HZ.out (by omega)).mono ?_
          rintro e w6 ⟨b, rfl, hst6, hg6⟩
          have hb6 : Below w.heap.size w w6 := hb5.grown hg6 hb5.size (fun k hk => by cases hk; exact Nat.le_refl _)
          have hs6 := hg6.size
          clear hst5 hg6 hb5
          cases b with
          | false =>
            clear hst6
            go_wp2
            refine bodyPost_ret (results_tmp4 rfl _ _ _) rfl ?_
            exact ⟨_, _, _, _, rfl, ⟨hn0, hn1⟩, hb6⟩
          | true =>
            go_wp2_with fail
            refine (below_any w.heap.size va bs 3 w6 hst6 hl HZ.out (by omega)).mono ?_
            rintro e w7 ⟨r, rfl, hr0, hr1, _, hst7, hg7⟩
            have hb7 : Below w.heap.size w w7 := hb6.grown hg7 hb6.size (fun k hk => by cases hk; exact Nat.le_refl _)
            have hs7 := hg7.size
            have hr2 := hr1 (by omega)
            clear hst6 hg7 hb6 hr1
            have hr3 : r = 0 ∨ r = 1 ∨ r = 2 := by omega
            clear hr0 hr2
            rcases hr3 with rfl | rfl | rfl
            focus
              have hst7' := st_below hst7 ((Below.refl (w.heap.size + 1) w7).alloc (by omega) (.cells hC 2))
              go_wp2_with fail
              refine (below_any w.heap.size va bs 3 _ hst7' hl HZ.out (by omega)).mono ?_
              rintro e w8 ⟨q, rfl, hq0, hq1, _, hst8, hg8⟩
              have hq2 := hq1 (by omega)
              obtain ⟨q, rfl⟩ := Int.eq_ofNat_of_zero_le hq0
              obtain ⟨z, hzr, hzi⟩ := hC_get q (by omega)
              have hcell := tab_cell hg8 (by omega) hzr
              have hb8 : Below w.heap.size w w8 := (hb7.alloc (by omega) _).grown hg8 (by simp; omega) (fun k hk => by cases hk; exact Nat.le_refl _)
              clear hst7 hst7' hst8 hg8 hzr hb7 hq1
              go_wp2
              refine bodyPost_ret (results_tmp4 rfl _ _ _) rfl ?_
              exact ⟨_, _, _, _, rfl, ⟨hn0, hn1⟩, hb8⟩
            focus
              have hst7' := st_below hst7 ((Below.refl (w.heap.size + 1) w7).alloc (by omega) (.cells oC 2))
              go_wp2_with fail
              refine (below_any w.heap.size va bs 2 _ hst7' hl HZ.out (by omega)).mono ?_
              rintro e w8 ⟨q, rfl, hq0, hq1, _, hst8, hg8⟩
              have hq2 := hq1 (by omega)
              obtain ⟨q, rfl⟩ := Int.eq_ofNat_of_zero_le hq0
              obtain ⟨z, hzr, hzi⟩ := oC_get q (by omega)
              have hcell := tab_cell hg8 (by omega) hzr
              have hb8 : Below w.heap.size w w8 := (hb7.alloc (by omega) _).grown hg8 (by simp; omega) (fun k hk => by cases hk; exact Nat.le_refl _)
              clear hst7 hst7' hst8 hg8 hzr hb7 hq1
              go_wp2
              refine bodyPost_ret (results_tmp4 rfl _ _ _) rfl ?_
              exact ⟨_, _, _, _, rfl, ⟨hn0, hn1⟩, hb8⟩
            focus
              have hst7' := st_below hst7 ((Below.refl (w.heap.size + 1) w7).alloc (by omega) (.cells iC 2))
              go_wp2_with fail
              refine (below_any w.heap.size va bs 3 _ hst7' hl HZ.out (by omega)).mono ?_
              rintro e w8 ⟨q, rfl, hq0, hq1, _, hst8, hg8⟩
              have hq2 := hq1 (by omega)
              obtain ⟨q, rfl⟩ := Int.eq_ofNat_of_zero_le hq0
              obtain ⟨z, hzr, hzi⟩ := iC_get q (by omega)
              have hcell := tab_cell hg8 (by omega) hzr
              have hb8 : Below w.heap.size w w8 := (hb7.alloc (by omega) _).grown hg8 (by simp; omega) (fun k hk => by cases hk; exact Nat.le_refl _)
              clear hst7 hst7' hst8 hg8 hzr hb7 hq1
              go_wp2
              refine bodyPost_ret (results_tmp4 rfl _ _ _) rfl ?_
              exact ⟨_, _, _, _, rfl, ⟨hn0, hn1⟩, hb8⟩

end Go.Proofs.Ytghagikegpphhaa
