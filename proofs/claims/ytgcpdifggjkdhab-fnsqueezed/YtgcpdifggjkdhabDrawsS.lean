/- CONTRACTS: what is drawn for squeezing: spec.l1DrawLong, DrawSqueezed, DrawLoosed: whatever the code, some text. -/
import Derived.Test.YtgcpdifggjkdhabDraw
import Derived.Test.YtgcpdifggjkdhabBend
import Derived.Test.YtgcpdifggjkdhabSqS
namespace Go.Proofs.Ytgcpdifggjkdhab
open Go.RowKit
set_option linter.unusedVariables false
theorem codeR {bs : List Int} (h : Bytes bs) : ∀ j, 0 ≤ bs.getD j 0 ∧ bs.getD j 0 ≤ 255 := bytes_get h
theorem zeros_bytes (n : Nat) : Bytes (List.replicate n (0 : Int)) := fun x hx => by
  rw [(List.mem_replicate.1 hx).2]; omega
theorem tab_cell {w2 w3 : World} {Tb : Array Value} {t : TypeId} {cb j : Nat} {u : Value} (hg : (w2.alloc (.cells Tb t)).grownBy w3 (some cb)) (hcb : cb < w2.heap.size) (h : Tb[j]? = some u) : w3.cell? ⟨w2.heap.size, j, none⟩ = some u := by
  rw [World.cell?_of_block (w := w2.alloc (.cells Tb t)) (hg.block w2.heap.size (by simp) (by simp; omega)), World.cell?_alloc_at _ _ _ _ rfl]
  exact h
/-- some part of a longer text -/
abbrev longC (t : ByteArray) : Array Value := #[.string ⟨#[97, 98, 99, 97, 98, 99, 97, 98]⟩, .string ⟨#[99, 101, 108, 108, 97, 114]⟩, .string ⟨#[115, 116, 111, 110, 101]⟩, .string t, .string ⟨#[97, 97, 97, 97, 97, 97, 97, 97, 97, 97]⟩, .string ⟨#[1, 0, 120]⟩]
theorem longC_get (t : ByteArray) (ht : t.size ≤ 10) (j : Nat) (h : j < 6) : ∃ z : ByteArray, (longC t)[j]? = some (.string z) ∧ z.size ≤ 10 := by
  rcases (show j = 0 ∨ j = 1 ∨ j = 2 ∨ j = 3 ∨ j = 4 ∨ j = 5 by omega) with rfl | rfl | rfl | rfl | rfl | rfl
  · exact ⟨_, rfl, by decide⟩
  · exact ⟨_, rfl, by decide⟩
  · exact ⟨_, rfl, by decide⟩
  · exact ⟨_, rfl, ht⟩
  · exact ⟨_, rfl, by decide⟩
  · exact ⟨_, rfl, by decide⟩

set_option maxHeartbeats 2000000 in
set_option maxRecDepth 100000 in
theorem drawLong_any (cb : Nat) (v : Value) (bs : List Int) (w : World) (hst : St w cb v bs) (hl : bs.length ≤ 4096) (hz : ∀ j, 0 ≤ bs.getD j 0 ∧ bs.getD j 0 ≤ 255) :
    Calls Try.prog 47 #[.pointer (some ⟨cb, 0, none⟩)] w fun e w' => ∃ s : ByteArray, e = .returned (.string s) ∧ s.size ≤ 60 ∧ St w' cb v bs ∧ w.grownBy w' (some cb) := by
  have hcb := st_lt hst
  have HZ : Hid (∀ j, 0 ≤ bs.getD j 0 ∧ bs.getD j 0 ≤ 255) := hz
  clear hz
  go_enter Try.func47, Try.ntmps47
  go_wp2_with fail
  refine (below_any cb v bs 6 w hst hl HZ.out (by omega)).mono ?_
  rintro e w1 ⟨r, rfl, hr0, hr1, _, hst1, hg1⟩
  have hr2 := hr1 (by omega)
  have HST1 : Hid (St w1 cb v bs) := hst1
  clear hst hst1 hr1
  go_wp2
  go_loopw [3, 4] (fun q n wr => ∃ (m : Int) (s : ByteArray), n = .int .i64 m ∧ q = .string s ∧ 0 ≤ m ∧ (s.size : Int) + 10 * m ≤ 60 ∧ Hid (St wr cb v bs) ∧ w.grownBy wr (some cb)) (fun _ n _ => (intOf n).toNat)
  case atStart => exact ⟨1 + r, ⟨#[]⟩, rfl, rfl, by omega, by show ((0 : Nat) : Int) + _ ≤ _; omega, HST1, hg1⟩
  case round =>
    obtain ⟨m, s, rfl, rfl, hm0, hsm, hst2, hg2⟩ := hrel
    have hs2 := hg2.size
    clear hg1 HST1
    by_cases hlt : 0 < m
    · go_wp2_with fail
      refine (drawText_any cb v bs 9 _ hst2.out hl HZ.out (by omega) (by omega)).mono ?_
      rintro e w3 ⟨t, rfl, ht, hst3, hg3⟩
      have hg3w := grown_trans hg2 hg3
      have hs3 := hg3w.size
      have hst3' := st_below hst3 ((Below.refl (cb + 1) w3).alloc (by omega) (.cells (longC t) 9))
      clear hst2 hg2 hg3 hst3
      go_wp2_with fail
      refine (below_any cb v bs 6 _ hst3' hl HZ.out (by omega)).mono ?_
      rintro e w4 ⟨q, rfl, hq0, hq1, _, hst4, hg4⟩
      have hq2 := hq1 (by omega)
      obtain ⟨q, rfl⟩ := Int.eq_ofNat_of_zero_le hq0
      obtain ⟨z, hzq, hzs⟩ := longC_get t (by omega) q (by omega)
      have hcell := tab_cell hg4 (by omega) hzq
      have hg4w := grown_trans hg3w (grown_trans (World.grownBy_alloc w3 _ _) hg4)
      have HST4 : Hid (St w4 cb v bs) := hst4
      have hadd : ∀ W : World, (Op.stringOp .add s z).run Try.prog W = .ok (.string (s ++ z)) W := fun W => run_string_add_sum W _ _ (by omega)
      have hsz : ((s ++ z).size : Int) + 10 * (m - 1) ≤ 60 := by rw [ByteArray.size_append]; omega
      clear hst3' hq1 hg4 hg3w hst4 hzq
      go_wp2
      go_roundw
      case rel => exact ⟨m - 1, s ++ z, by go_num, rfl, by omega, hsz, HST4, hg4w⟩
      case measure => simp [intOf]; omega
    · have hst0 := hst2.out
      clear hst2
      go_wp2
      go_ret
      exact ⟨s, rfl, by omega, hst0, hg2⟩

set_option maxHeartbeats 1000000 in
set_option maxRecDepth 100000 in
theorem drawSqueezed_any (va : Value) (bs : List Int) (w : World) (ha : Rd w va (cellsByteS bs)) (hl : bs.length ≤ 4096) (hz : Bytes bs) :
    Calls Try.prog 37 #[va] w fun e w' => ∃ s : ByteArray, e = .returned (.string s) ∧ s.size ≤ 20001 ∧ Below w.heap.size w w' := by
  obtain ⟨i0, hi, hz0, hz1, hz2⟩ := info_parts Try.infoB
  have HZ := Lib.hid (codeR hz)
  go_enter Try.func37, Try.ntmps37
  go_wp2_with fail
  refine (new_any va bs w ha hl HZ.out).mono ?_
  rintro e w1 ⟨rfl, hst1, hb1, hs1⟩
  go_wp2_with fail
  refine (once_any w.heap.size va bs 40 w1 hst1 hl HZ.out (by omega)).mono ?_
  rintro e w2 ⟨o, rfl, hst2, hg2⟩
  have hb2 : Below w.heap.size w w2 := hb1.grown hg2 hb1.size (fun k hk => by cases hk; exact Nat.le_refl _)
  have HST2 : Hid (St w2 w.heap.size va bs) := hst2
  clear hst1 hst2 hg2 hb1 ha hz
  cases o with
  | false =>
    go_wp2_with fail
    refine (drawLong_any w.heap.size va bs w2 HST2.out hl HZ.out).mono ?_
    rintro e w3 ⟨s1, rfl, hz3, hst3, hg3⟩
    have hb3 : Below w.heap.size w w3 := hb2.grown hg3 hb2.size (fun k hk => by cases hk; exact Nat.le_refl _)
    have HST3 : Hid (St w3 w.heap.size va bs) := hst3
    clear hst3 hg3 hb2 HST2
    go_wp2_with fail
    refine (drawLong_any w.heap.size va bs w3 HST3.out hl HZ.out).mono ?_
    rintro e w4 ⟨s2, rfl, hz4, hst4, hg4⟩
    have hb4 : Below w.heap.size w w4 := hb3.grown hg4 hb3.size (fun k hk => by cases hk; exact Nat.le_refl _)
    have hadd : ∀ W : World, (Op.stringOp .add s1 s2).run Try.prog W = .ok (.string (s1 ++ s2)) W := fun W => run_string_add_sum W _ _ (by omega)
    have hsz : (s1 ++ s2).size ≤ 20001 := by rw [ByteArray.size_append]; omega
    clear hst4 hg4 hb3 HST3
    go_wp2
    go_ret
    exact ⟨_, rfl, hsz, hb4⟩
  | true =>
    go_wp2_with fail
    refine (below_any w.heap.size va bs 2 w2 HST2.out hl HZ.out (by omega)).mono ?_
    rintro e w3 ⟨r, rfl, hr0, hr1, _, hst3, hg3⟩
    have hr2 := hr1 (by omega)
    have hb3 : Below w.heap.size w w3 := hb2.grown hg3 hb2.size (fun k hk => by cases hk; exact Nat.le_refl _)
    clear hst3 hg3 hb2 HST2 hr1
    obtain ⟨n, hn⟩ : ∃ n : Nat, (n : Int) = 20000 + r := ⟨(20000 + r).toNat, by omega⟩
    have hn1 : n ≤ 20001 := by omega
    have hn0 : 20000 ≤ n := by omega
    have hrn : (20000 : Int) + r = (n : Int) := hn.symm
    have hmk : ∀ W : World, (Instr.makeSlice 22 (.int .i64 (n : Int)) (.int .i64 (n : Int))).run Try.prog W = .ok (.slice (some ⟨W.heap.size, 0, none⟩) n n) (W.alloc (.cells (madeCells (Value.int .u8 0).cells (((n : Nat) : Int).toNat * i0.size)) 5)) := fun W => by
      have h := run_make (P := Try.prog) W 22 5 i0 (.int .u8 0) Try.underlying22 hi hz0 .i64 .i64 (n : Int) (n : Int) (by omega) (by omega) (by rw [hz2]; omega) (by omega)
      simpa using h
    obtain ⟨M, hM⟩ : ∃ M, M = madeCells (Value.int .u8 0).cells (((n : Nat) : Int).toNat * i0.size) := ⟨_, rfl⟩
    have hMl : M.toList = cellsByteS (List.replicate n 0) := by
      rw [hM, hz1, cellsByteS, List.map_replicate, Int.toNat_natCast, Nat.mul_one]
      exact toList_madeCells_one (.int .u8 0) n
    rw [← hM] at hmk
    clear hM hn
    have hZB : Bytes (List.replicate n (0 : Int)) := zeros_bytes n
    have hZL : (List.replicate n (0 : Int)).length = n := List.length_replicate
    generalize List.replicate n (0 : Int) = Z at hMl hZB hZL
    have hcv : ∀ W : World, (convert 22 9 (.slice (some ⟨W.heap.size, 0, none⟩) n n)).run Try.prog (W.alloc (.cells M 5)) = .ok (.string (asB Z)) (W.alloc (.cells M 5)) := fun W => by
      have h := str_of (W.alloc (.cells M 5)) W.heap.size 0 n n Z hZB (by omega) (fun j hj => by
        rw [Nat.zero_add, cell_of_row (W.alloc (.cells M 5)) W.heap.size j M _ (0, 0) (heap_alloc_new W _), ← Array.getElem?_toList, hMl]
        exact ints_get .u8 Z j hj)
      rw [List.take_of_length_le (by omega)] at h
      exact h
    have hzs : (asB Z).size ≤ 20001 := by rw [asB_size, hZL]; exact hn1
    generalize asB Z = z at hcv hzs
    have HB := Lib.hid (hb3.alloc hb3.size (.cells M 5))
    clear hMl hZB hZL hb3
    go_wp2
    go_ret
    exact ⟨z, rfl, hzs, HB.out⟩
set_option maxHeartbeats 1000000 in
set_option maxRecDepth 100000 in
theorem drawLoosed_any (va : Value) (bs : List Int) (w : World) (ha : Rd w va (cellsByteS bs)) (hl : bs.length ≤ 4096) (hz : Bytes bs) :
    Calls Try.prog 39 #[va] w fun e w' => ∃ s : ByteArray, e = .returned (.string s) ∧ s.size ≤ 40002 ∧ Below w.heap.size w w' := by
  have HZ := Lib.hid (codeR hz)
  go_enter Try.func39, Try.ntmps39
  go_wp2_with fail
  refine (new_any va bs w ha hl HZ.out).mono ?_
  rintro e w1 ⟨rfl, hst1, hb1, hs1⟩
  clear ha hz
  go_wp2_with fail
  refine (drawLong_any w.heap.size va bs w1 hst1 hl HZ.out).mono ?_
  rintro e w2 ⟨s1, rfl, hz2, hst2, hg2⟩
  have hb2 : Below w.heap.size w w2 := hb1.grown hg2 hb1.size (fun k hk => by cases hk; exact Nat.le_refl _)
  clear hst1 hg2 hb1
  go_wp2_with fail
  refine (drawLong_any w.heap.size va bs w2 hst2 hl HZ.out).mono ?_
  rintro e w3 ⟨s2, rfl, hz3, hst3, hg3⟩
  have hb3 : Below w.heap.size w w3 := hb2.grown hg3 hb2.size (fun k hk => by cases hk; exact Nat.le_refl _)
  have hadd : ∀ W : World, (Op.stringOp .add s1 s2).run Try.prog W = .ok (.string (s1 ++ s2)) W := fun W => run_string_add_sum W _ _ (by omega)
  have hsz : (s1 ++ s2).size ≤ 120 := by rw [ByteArray.size_append]; omega
  generalize s1 ++ s2 = s3 at hadd hsz
  clear hst2 hg3 hb2
  go_wp2_with fail
  refine (specSqueezed_any s3 w3 (by omega)).mono ?_
  rintro e w4 ⟨rfl, hb4⟩
  have hst4 : St w4 w.heap.size va bs := st_below hst3 (hb4.mono (by have := st_lt hst3; omega))
  have hb4w := hb3.trans (hb4.mono hb3.size)
  have hs4 := sqT_size s3
  generalize sqT s3 = t at hs4
  clear hst3 hb3 hb4 hadd
  go_wp2_with fail
  refine (once_any w.heap.size va bs 2 w4 hst4 hl HZ.out (by omega)).mono ?_
  rintro e w5 ⟨o, rfl, hst5, hg5⟩
  have hb5 : Below w.heap.size w w5 := hb4w.grown hg5 hb4w.size (fun k hk => by cases hk; exact Nat.le_refl _)
  have HST5 : Hid (St w5 w.heap.size va bs) := hst5
  clear hst4 hg5 hb4w hst5
  cases o with
  | false =>
    go_wp2
    go_ret
    exact ⟨_, rfl, by omega, hb5⟩
  | true =>
    go_wp2_with fail
    refine (bend_any w.heap.size va bs t ⟨#[0, 1, 2, 57, 97]⟩ w5 HST5.out hl HZ.out (by omega) (by decide) (by decide)).mono ?_
    rintro e w6 ⟨u, rfl, hu, hst6, hg6⟩
    have hb6 : Below w.heap.size w w6 := hb5.grown hg6 hb5.size (fun k hk => by cases hk; exact Nat.le_refl _)
    clear hst6 hg6 hb5 HST5
    go_wp2
    go_ret
    exact ⟨_, rfl, by omega, hb6⟩
end Go.Proofs.Ytgcpdifggjkdhab
