/- CONTRACTS: what is drawn for cutting: spec.DrawNext, DrawCuts, DrawChunks, DrawGlued, DrawShared; laws.words: whatever the code, some texts, some rule, some lists. -/
import Derived.Test.YtndecefcnalgdabDrawsC
import Derived.Test.YtndecefcnalgdabCuts
import Derived.Test.YtndecefcnalgdabPick
namespace Go.Proofs.Ytndecefcnalgdab
open Go.RowKit

/-- where a drawing stands whose result is a rule: the cursor lies in block cb, the result's block is as it was laid -/
structure NX (cb : Nat) (v : Value) (bs : List Int) (w w' : World) : Prop where
  st : St w' cb v bs
  be : Below w.heap.size w w'
  res : RuleAt w' w.heap.size 0 0 0 0
  lt : w.heap.size < cb
theorem NX.draw {cb : Nat} {v : Value} {bs : List Int} {w w1 w2 : World} (h : NX cb v bs w w1) (hst : St w2 cb v bs) (hg : w1.grownBy w2 (some cb)) : NX cb v bs w w2 :=
  have h0 := h.lt
  have h1 := st_lt h.st
  ⟨hst, h.be.grown hg h.be.size (fun k e => by cases e; omega), (hg.block w.heap.size (by omega) (fun e => by cases e; omega)).trans h.res, h0⟩
theorem res_fin {w w1 : World} {W P L M : Int} (hb : Below w.heap.size w w1) (hr : RuleAt w1 w.heap.size 0 0 0 0) (wf : World)
    (hw : wf = (((w1.setCell ⟨w.heap.size, 0, none⟩ (.int .i64 W)).setCell ⟨w.heap.size, 1, none⟩ (.int .i64 P)).setCell ⟨w.heap.size, 2, none⟩ (.int .i64 L)).setCell ⟨w.heap.size, 3, none⟩ (.int .i64 M)) :
    RuleAt wf w.heap.size W P L M ∧ Below w.heap.size w wf := by
  subst hw
  exact ⟨ruleAt_set3 (ruleAt_set2 (ruleAt_set1 (ruleAt_set0 hr W) P) L) M, ((((hb.setCell (p := ⟨w.heap.size, 0, none⟩) (Nat.le_refl _) _).setCell (p := ⟨w.heap.size, 1, none⟩) (Nat.le_refl _) _).setCell (p := ⟨w.heap.size, 2, none⟩) (Nat.le_refl _) _).setCell (p := ⟨w.heap.size, 3, none⟩) (Nat.le_refl _) _)⟩

set_option maxHeartbeats 1000000 in
set_option maxRecDepth 100000 in
theorem drawNext_any (va : Value) (bs : List Int) (w : World) (ha : Rd w va (cellsByteS bs)) (hl : bs.length ≤ 4096) (hz : Bytes bs) :
    Calls Try.prog 14 #[va] w fun e w' => ∃ (s : ByteArray) (W P L M : Int), e = .returned (.tuple #[.string s, ruleV W P L M]) ∧ s.size ≤ 60 ∧ Below w.heap.size w w' := by
  have hr0 := heap_alloc_new w (.cells #[.int .i64 0, .int .i64 0, .int .i64 0, .int .i64 0] 25)
  have hb0 := (Below.refl w.heap.size w).alloc (Nat.le_refl _) (.cells #[.int .i64 0, .int .i64 0, .int .i64 0, .int .i64 0] 25)
  have ha0 := rd_below' ha hb0 (Nat.le_refl _)
  have hs0 := World.size_alloc w (.cells #[.int .i64 0, .int .i64 0, .int .i64 0, .int .i64 0] 25)
  have HZ : Hid (∀ j, 0 ≤ bs.getD j 0 ∧ bs.getD j 0 ≤ 255) := codeR hz
  clear hz
  go_enter Try.func14, Try.ntmps14
  go_wp2_with fail
  refine (new_any va bs _ ha0 hl HZ.out).mono ?_
  rintro e w1 ⟨rfl, hst1, hb1, hs1⟩
  have hr1 := (hb1.block w.heap.size (by omega)).trans hr0
  have hB1 := hb0.trans (hb1.mono hb0.size)
  rw [hs0] at hst1 ⊢
  have H1 : Hid (NX (w.heap.size + 1) va bs w w1) := ⟨hst1, hB1, hr1, Nat.lt_succ_self _⟩
  clear ha ha0 hr0 hb0 hb1 hr1 hB1 hst1 hs1 hs0
  go_wp2_with fail
  refine (drawLong_any (w.heap.size + 1) va bs w1 H1.out.st hl HZ.out).mono ?_
  rintro e w2 ⟨s, rfl, hs, hst2, hg2⟩
  have H2 : Hid (NX (w.heap.size + 1) va bs w w2) := H1.out.draw hst2 hg2
  clear hst2 hg2 H1
  go_wp2_with fail
  refine (once_any (w.heap.size + 1) va bs 10 w2 H2.out.st hl HZ.out (by omega)).mono ?_
  rintro e w3 ⟨o, rfl, hst3, hg3⟩
  have H3 : Hid (NX (w.heap.size + 1) va bs w w3) := H2.out.draw hst3 hg3
  clear hst3 hg3 H2
  cases o with
  | true =>
    go_wp2_with fail
    refine (drawText_any (w.heap.size + 1) va bs 3 w3 H3.out.st hl HZ.out (by omega) (by omega)).mono ?_
    rintro e w4 ⟨t, rfl, ht, hst4, hg4⟩
    have H4 : Hid (NX (w.heap.size + 1) va bs w w4) := H3.out.draw hst4 hg4
    clear hst4 hg4 H3
    go_wp2_with fail
    refine (drawRule_any (w.heap.size + 1) va bs w4 H4.out.st hl HZ.out).mono ?_
    rintro e w5 ⟨W, P, L, M, rfl, hst5, hg5⟩
    have H5 : Hid (NX (w.heap.size + 1) va bs w w5) := H4.out.draw hst5 hg5
    clear hst5 hg5 H4
    obtain ⟨g0, g1, g2, g3⟩ := rule_cells rfl H5.out.res
    have i0 := Lib.frozen_of_heap H5.out.res 0
    have i1 := Lib.frozen_of_heap H5.out.res 1
    have i2 := Lib.frozen_of_heap H5.out.res 2
    have i3 := Lib.frozen_of_heap H5.out.res 3
    go_wp2
    generalize hwf : (((w5.setCell ⟨w.heap.size, 0, none⟩ (.int .i64 W)).setCell ⟨w.heap.size, 1, none⟩ (.int .i64 P)).setCell ⟨w.heap.size, 2, none⟩ (.int .i64 L)).setCell ⟨w.heap.size, 3, none⟩ (.int .i64 M) = wf
    obtain ⟨k1, k2⟩ := res_fin H5.out.be H5.out.res wf hwf.symm
    obtain ⟨q0, q1, q2, q3⟩ := rule_cells rfl k1
    clear hwf
    exact bodyPost_ret (v := .tuple #[.string t, ruleV W P L M]) (by simp [results, Try.results14, go_sem, q0, q1, q2, q3]) rfl ⟨_, _, _, _, _, rfl, by omega, k2⟩
  | false =>
    go_wp2_with fail
    refine (drawRule_any (w.heap.size + 1) va bs w3 H3.out.st hl HZ.out).mono ?_
    rintro e w5 ⟨W, P, L, M, rfl, hst5, hg5⟩
    have H5 : Hid (NX (w.heap.size + 1) va bs w w5) := H3.out.draw hst5 hg5
    clear hst5 hg5 H3
    obtain ⟨g0, g1, g2, g3⟩ := rule_cells rfl H5.out.res
    have i0 := Lib.frozen_of_heap H5.out.res 0
    have i1 := Lib.frozen_of_heap H5.out.res 1
    have i2 := Lib.frozen_of_heap H5.out.res 2
    have i3 := Lib.frozen_of_heap H5.out.res 3
    go_wp2
    generalize hwf : (((w5.setCell ⟨w.heap.size, 0, none⟩ (.int .i64 W)).setCell ⟨w.heap.size, 1, none⟩ (.int .i64 P)).setCell ⟨w.heap.size, 2, none⟩ (.int .i64 L)).setCell ⟨w.heap.size, 3, none⟩ (.int .i64 M) = wf
    obtain ⟨k1, k2⟩ := res_fin H5.out.be H5.out.res wf hwf.symm
    obtain ⟨q0, q1, q2, q3⟩ := rule_cells rfl k1
    clear hwf
    exact bodyPost_ret (v := .tuple #[.string s, ruleV W P L M]) (by simp [results, Try.results14, go_sem, q0, q1, q2, q3]) rfl ⟨_, _, _, _, _, rfl, hs, k2⟩

set_option maxRecDepth 100000 in
theorem drawCuts_any (va : Value) (bs : List Int) (w : World) (ha : Rd w va (cellsByteS bs)) (hl : bs.length ≤ 4096) (hz : Bytes bs) :
    Calls Try.prog 5 #[va] w fun e w' => ∃ (s : ByteArray) (W P L M : Int), e = .returned (.tuple #[.string s, ruleV W P L M]) ∧ s.size ≤ 60 ∧ Below w.heap.size w w' := by
  have hr0 := heap_alloc_new w (.cells #[.int .i64 0, .int .i64 0, .int .i64 0, .int .i64 0] 25)
  have hb0 := (Below.refl w.heap.size w).alloc (Nat.le_refl _) (.cells #[.int .i64 0, .int .i64 0, .int .i64 0, .int .i64 0] 25)
  have ha0 := rd_below' ha hb0 (Nat.le_refl _)
  go_enter Try.func5, Try.ntmps5
  go_wp2_with fail
  refine (drawNext_any va bs _ ha0 hl hz).mono ?_
  rintro e w5 ⟨s, W, P, L, M, rfl, hs, hb5⟩
  have hr5 : RuleAt w5 w.heap.size 0 0 0 0 := (hb5.block w.heap.size (by simp)).trans hr0
  have hB5 := hb0.trans (hb5.mono hb0.size)
  obtain ⟨g0, g1, g2, g3⟩ := rule_cells rfl hr5
  have i0 := Lib.frozen_of_heap hr5 0
  have i1 := Lib.frozen_of_heap hr5 1
  have i2 := Lib.frozen_of_heap hr5 2
  have i3 := Lib.frozen_of_heap hr5 3
  have HR : Hid (RuleAt w5 w.heap.size 0 0 0 0) := hr5
  clear ha ha0 hr0 hb0 hb5 hr5
  go_wp2
  generalize hwf : (((w5.setCell ⟨w.heap.size, 0, none⟩ (.int .i64 W)).setCell ⟨w.heap.size, 1, none⟩ (.int .i64 P)).setCell ⟨w.heap.size, 2, none⟩ (.int .i64 L)).setCell ⟨w.heap.size, 3, none⟩ (.int .i64 M) = wf
  obtain ⟨k1, k2⟩ := res_fin hB5 HR.out wf hwf.symm
  obtain ⟨q0, q1, q2, q3⟩ := rule_cells rfl k1
  clear hwf
  exact bodyPost_ret (v := .tuple #[.string s, ruleV W P L M]) (by simp [results, Try.results5, go_sem, q0, q1, q2, q3]) rfl ⟨_, _, _, _, _, rfl, hs, k2⟩


/-- some word -/
abbrev wordC : Array Value := #[.string ⟨#[99, 101, 108, 108, 97, 114, 32]⟩, .string ⟨#[115, 116, 111, 110, 101, 32]⟩, .string ⟨#[118, 97, 117, 108, 116, 32, 111, 102, 32]⟩, .string ⟨#[111, 108, 100, 32]⟩, .string ⟨#[119, 105, 110, 101]⟩]
theorem wordC_get (j : Nat) (h : j < 5) : ∃ z : ByteArray, wordC[j]? = some (.string z) ∧ 4 ≤ z.size ∧ z.size ≤ 9 := by
  rcases (show j = 0 ∨ j = 1 ∨ j = 2 ∨ j = 3 ∨ j = 4 by omega) with rfl | rfl | rfl | rfl | rfl
  · exact ⟨_, rfl, by decide, by decide⟩
  · exact ⟨_, rfl, by decide, by decide⟩
  · exact ⟨_, rfl, by decide, by decide⟩
  · exact ⟨_, rfl, by decide, by decide⟩
  · exact ⟨_, rfl, by decide, by decide⟩

set_option maxHeartbeats 2000000 in
set_option maxRecDepth 100000 in
theorem words_any (va : Value) (bs : List Int) (seed : Int) (w : World) (ha : Rd w va (cellsByteS bs)) (hl : bs.length ≤ 4096) (hz : ∀ j, 0 ≤ bs.getD j 0 ∧ bs.getD j 0 ≤ 255) (h0 : 0 ≤ seed) (h1 : seed ≤ 1000) :
    Calls Try.prog 10 #[va, .int .i64 seed] w fun e w' => ∃ s : ByteArray, e = .returned (.string s) ∧ 12 ≤ s.size ∧ s.size ≤ 72 ∧ Below w.heap.size w w' := by
  have HA : Hid (Rd w va (cellsByteS bs)) := ha
  have HZ : Hid (∀ j, 0 ≤ bs.getD j 0 ∧ bs.getD j 0 ≤ 255) := hz
  clear ha hz
  go_enter Try.func10, Try.ntmps10
  go_wp2
  go_loopw [5, 6] (fun q n wr => ∃ (k : Nat) (s : ByteArray), n = .int .i64 k ∧ q = .string s ∧ k ≤ 8 ∧ 4 * k ≤ s.size ∧ s.size ≤ 9 * k ∧ Below w.heap.size w wr) (fun _ n _ => 8 - (intOf n).toNat)
  case atStart => exact ⟨0, ⟨#[]⟩, rfl, rfl, by omega, Nat.zero_le _, Nat.zero_le _, Below.refl _ _⟩
  case round =>
    obtain ⟨k, s, rfl, rfl, hk, hs1, hs2, hb⟩ := hrel
    go_wp2_with fail
    refine (pick_any va bs seed 5 _ (rd_below HA.out hb) hl HZ.out h0 (by omega) (by omega) (by omega)).mono ?_
    rintro e w1 ⟨r, rfl, hr0, hr1, hb1⟩
    have hB1 := hb.trans (hb1.mono hb.size)
    have hsz1 := hB1.size
    clear hb hb1
    by_cases hlt : (k : Int) < 3 + r
    · have hbt := (Below.refl w1.heap.size w1).alloc (Nat.le_refl _) (.cells wordC 9)
      have hBt := hB1.alloc hB1.size (.cells wordC 9)
      have hcT := heap_alloc_new w1 (.cells wordC 9)
      have hszt := World.size_alloc w1 (.cells wordC 9)
      go_wp2_with fail
      refine (pick_any va bs (seed + k) 5 _ (rd_below HA.out hBt) hl HZ.out (by omega) (by omega) (by omega) (by omega)).mono ?_
      rintro e w2 ⟨q, rfl, hq0, hq1, hb2⟩
      obtain ⟨q, rfl⟩ := Int.eq_ofNat_of_zero_le hq0
      obtain ⟨z, hzq, hz4, hz9⟩ := wordC_get q (by omega)
      have hcell : w2.cell? ⟨w1.heap.size, q, none⟩ = some (.string z) := by
        have h := (hb2.block w1.heap.size (by omega)).trans hcT
        rw [← hzq]
        simp [World.cell?, h]
      have hB2 := hBt.trans (hb2.mono hBt.size)
      have hadd : ∀ W : World, (Op.stringOp .add s z).run Try.prog W = .ok (.string (s ++ z)) W := fun W => run_string_add_sum W _ _ (by omega)
      have hsz : (s ++ z).size = s.size + z.size := ByteArray.size_append
      have hsz3 : 4 * (k + 1) ≤ (s ++ z).size ∧ (s ++ z).size ≤ 9 * (k + 1) := by omega
      clear hbt hBt hcT hszt hzq hb2 hsz hB1
      go_wp2
      go_roundw
      case rel => exact ⟨k + 1, s ++ z, by go_num, rfl, by omega, hsz3.1, hsz3.2, hB2⟩
      case measure => simp [intOf]; omega
    · go_wp2
      go_ret
      exact ⟨s, rfl, by omega, by omega, hB1⟩

theorem rd_two (X : World) (z t : ByteArray) : Rd (X.alloc (.cells #[.string z, .string t] 9)) (.slice (some ⟨X.heap.size, 0, none⟩) 2 2) (cellsS [z, t]) := by
  refine ⟨_, 2, rfl, Nat.le_refl _, fun _ => ⟨X.heap.size, 0, rfl, by simp, fun j hj => ?_⟩⟩
  have hj2 : j < 2 := hj
  rw [Nat.zero_add, World.cell?_alloc_at _ _ _ _ rfl]
  rcases (show j = 0 ∨ j = 1 by omega) with rfl | rfl <;> rfl


theorem cutsT_max (s : ByteArray) (W P L M : Int) : (cutsT s W P L M).length ≤ 20000 := by
  unfold cutsT
  split
  · rename_i h
    obtain ⟨W, L, M, rfl, rfl, rfl, hok⟩ := ruleB_ok h.1
    have := cuts_count (okn_next (W := W) (P := P) (L := L) (M := M) (by omega) hok.2.2.2.1) (byts s) 0 (Nat.zero_le _)
    rw [byts_len] at this
    have e := cutsI_len s W P L M
    unfold cutsN at e
    show (cutsI s W P L M).length ≤ 20000
    omega
  · simp
theorem results_tmp3' {fn : Func} {t u x : Tmp} (h : fn.results = #[.tmp t, .tmp u, .tmp x]) (tmps : Array Value) (P : Program) (w : World) :
    (results fn tmps).run P w = .ok (.tuple #[tmps.getD t undef, tmps.getD u undef, tmps.getD x undef]) w := by
  simp [results, h]

set_option maxHeartbeats 2000000 in
set_option maxRecDepth 100000 in
theorem drawShared_any (va : Value) (bs : List Int) (w : World) (ha : Rd w va (cellsByteS bs)) (hl : bs.length ≤ 4096) (hz : Bytes bs) :
    Calls Try.prog 6 #[va] w fun e w' => ∃ (v1 v2 : Value) (a b : List Int) (n : Int), e = .returned (.tuple #[v1, v2, .int .i64 n]) ∧ a.length ≤ 30000 ∧ b.length ≤ 30000 ∧ Rd w' v1 (cellsInt64S a) ∧ Rd w' v2 (cellsInt64S b) ∧ Below w.heap.size w w' := by
  obtain ⟨i0, hi, hz0, hz1, hz2⟩ := info_parts Try.info64
  have HZ : Hid (∀ j, 0 ≤ bs.getD j 0 ∧ bs.getD j 0 ≤ 255) := codeR hz
  clear hz
  go_enter Try.func6, Try.ntmps6
  go_wp2_with fail
  refine (new_any va bs w ha hl HZ.out).mono ?_
  rintro e w1 ⟨rfl, hst1, hb1, hs1⟩
  clear ha
  go_wp2_with fail
  refine (drawLong_any w.heap.size va bs w1 hst1 hl HZ.out).mono ?_
  rintro e w2 ⟨s, rfl, hs, hst2, hg2⟩
  have hb2 : Below w.heap.size w w2 := hb1.grown hg2 hb1.size (fun k hk => by cases hk; exact Nat.le_refl _)
  have hs2 := hg2.size
  clear hst1 hb1 hg2
  go_wp2_with fail
  refine (drawText_any w.heap.size va bs 5 w2 hst2 hl HZ.out (by omega) (by omega)).mono ?_
  rintro e w3 ⟨t, rfl, ht, hst3, hg3⟩
  have hb3 : Below w.heap.size w w3 := hb2.grown hg3 hb2.size (fun k hk => by cases hk; exact Nat.le_refl _)
  have hs3 := hg3.size
  clear hst2 hb2 hg3
  go_wp2_with fail
  refine (drawRule_any w.heap.size va bs w3 hst3 hl HZ.out).mono ?_
  rintro e w4 ⟨W, P, L, M, rfl, hst4, hg4⟩
  have hb4 : Below w.heap.size w w4 := hb3.grown hg4 hb3.size (fun k hk => by cases hk; exact Nat.le_refl _)
  have hs4 := hg4.size
  clear hst3 hb3 hg4
  have hx5 := heap_alloc_new w4 (.cells #[.int .i64 W, .int .i64 P, .int .i64 L, .int .i64 M] 25)
  have hb5 := hb4.alloc hb4.size (.cells #[.int .i64 W, .int .i64 P, .int .i64 L, .int .i64 M] 25)
  have hst5 := st_below hst4 ((Below.refl (w.heap.size + 1) w4).alloc (by omega) (.cells #[.int .i64 W, .int .i64 P, .int .i64 L, .int .i64 M] 25))
  have hs5 := World.size_alloc w4 (.cells #[.int .i64 W, .int .i64 P, .int .i64 L, .int .i64 M] 25)
  have HST5 : Hid (St (w4.alloc (.cells #[.int .i64 W, .int .i64 P, .int .i64 L, .int .i64 M] 25)) w.heap.size va bs) := hst5
  clear hst4 hb4 hst5
  go_wp2_with fail
  refine (specCuts_any s W P L M _ (by omega)).mono ?_
  rintro e w6 ⟨v1, rfl, ho1, hb6⟩
  rw [hs5] at ho1
  have hx6 := (hb6.block w4.heap.size (by omega)).trans hx5
  have hB6 := hb5.trans (hb6.mono hb5.size)
  have HST6 : Hid (St w6 w.heap.size va bs) := st_below HST5.out (hb6.mono (by omega))
  have hs6 := hb6.size
  have hlen1 := cutsT_max s W P L M
  generalize cutsT s W P L M = a at ho1 hlen1
  obtain ⟨d0, d1, d2, d3⟩ := rule_cells rfl hx6
  have hadd : ∀ W : World, (Op.stringOp .add t s).run Try.prog W = .ok (.string (t ++ s)) W := fun W => run_string_add_sum W _ _ (by omega)
  have hts : (t ++ s).size ≤ 9223372036854775807 := by rw [ByteArray.size_append]; omega
  generalize t ++ s = u at hadd hts
  clear hx5 hb5 HST5 hb6 hx6
  go_wp2_with fail
  refine (specCuts_any u W P L M _ hts).mono ?_
  rintro e w7 ⟨v2, rfl, ho2, hb7⟩
  have hB7 := hB6.trans (hb7.mono hB6.size)
  have HST7 : Hid (St w7 w.heap.size va bs) := st_below HST6.out (hb7.mono (by omega))
  have hs7 := hb7.size
  have ho17 := owns_below ho1 hb7
  have hv1 := fun k hk => (ho1.lt k hk).2
  have hv2 := fun k hk => (ho2.lt k hk).1
  have hlen2 := cutsT_max u W P L M
  generalize cutsT u W P L M = b at ho2 hlen2
  clear ho1 HST6 hb7 hB6 d0 d1 d2 d3 hadd hts
  go_wp2_with fail
  refine (once_any w.heap.size va bs 12 w7 HST7.out hl HZ.out (by omega)).mono ?_
  rintro e w8 ⟨o, rfl, hst8, hg8⟩
  have hB8 : Below w.heap.size w w8 := hB7.grown hg8 hB7.size (fun k hk => by cases hk; exact Nat.le_refl _)
  have ho18 := owns_grown ho17 hg8 (fun k hk h => by cases hk; have := (ho17.lt _ h).1; omega)
  have ho28 := owns_grown ho2 hg8 (fun k hk h => by cases hk; have := (ho2.lt _ h).1; omega)
  have HST8 : Hid (St w8 w.heap.size va bs) := hst8
  have hs8 := hg8.size
  clear hst8 hg8 ho17 ho2 hB7 HST7
  cases o with
  | false =>
    go_wp2_with fail
    refine (below_any w.heap.size va bs 2 w8 HST8.out hl HZ.out (by omega)).mono ?_
    rintro e w9 ⟨p, rfl, hp0, hp1, _, hst9, hg9⟩
    have hp2 := hp1 (by omega)
    have hB9 : Below w.heap.size w w9 := hB8.grown hg9 hB8.size (fun k hk => by cases hk; exact Nat.le_refl _)
    have ho19 := owns_grown ho18 hg9 (fun k hk h => by cases hk; have := (ho18.lt _ h).1; omega)
    have ho29 := owns_grown ho28 hg9 (fun k hk h => by cases hk; have := (ho28.lt _ h).1; omega)
    have HST9 : Hid (St w9 w.heap.size va bs) := hst9
    clear hst9 hg9 ho18 ho28 hB8 HST8 hp1
    go_wp2_with fail
    refine (from_any w.heap.size va bs (-2) 5 w9 HST9.out hl HZ.out (by omega) (by omega) (by omega)).mono ?_
    rintro e w10 ⟨q, rfl, hq0, hq1, hst10, hg10⟩
    have hB10 : Below w.heap.size w w10 := hB9.grown hg10 hB9.size (fun k hk => by cases hk; exact Nat.le_refl _)
    have hr1 := rd_owns (owns_grown ho19 hg10 (fun k hk h => by cases hk; have := (ho19.lt _ h).1; omega))
    have hr2 := rd_owns (owns_grown ho29 hg10 (fun k hk h => by cases hk; have := (ho29.lt _ h).1; omega))
    clear hst10 hg10 ho19 ho29 hB9 HST9
    rcases (show p = 0 ∨ p = 1 by omega) with rfl | rfl
    all_goals
      go_wp2
      refine bodyPost_ret (results_tmp3' rfl _ _ _) rfl ?_
      exact ⟨_, _, a, b, _, rfl, by omega, by omega, hr1, hr2, hB10⟩
  | true =>
    go_wp2_with fail
    refine (from_any w.heap.size va bs (-1) 40 w8 HST8.out hl HZ.out (by omega) (by omega) (by omega)).mono ?_
    rintro e w9 ⟨x, rfl, hx0, hx1, hst9, hg9⟩
    have hB9 : Below w.heap.size w w9 := hB8.grown hg9 hB8.size (fun k hk => by cases hk; exact Nat.le_refl _)
    have ho19 := owns_grown ho18 hg9 (fun k hk h => by cases hk; have := (ho18.lt _ h).1; omega)
    have ho29 := owns_grown ho28 hg9 (fun k hk h => by cases hk; have := (ho28.lt _ h).1; omega)
    have HST9 : Hid (St w9 w.heap.size va bs) := hst9
    have hs9 := hg9.size
    clear hst9 hg9 hB8 HST8 ho18 ho28
    have hcb9 := st_lt HST9.out
    go_wp2_with (at_builtin; refine wpList_append_own _ rfl _ _ 28 rfl (w4.heap.size + 1) 2 i0 (.int .i64 0) 1 8 Try.underlying28 hi hz0 hz1 hz2 rfl (by decide) _ _ _ rfl (ho19.alloc _) ⟨w9.heap.size, 0, none⟩ 1 1 [.int .i64 x] rfl rfl ?c1 ?c2 ?c3 ?c4 ?c5 ?_)
    case c1 => exact one_cell w9 .i64 _ _
    case c2 => exact ints_oneCell .i64 [x]
    case c3 => unfold maxLen; omega
    case c4 => omega
    case c5 => simp; omega
    intro v3 w10 ho3 hgA _
    have hgB := grown_trans (World.grownBy_alloc w9 _ _) hgA
    have hB10 : Below w.heap.size w w10 := hB9.grown hgB hB9.size (fun k hk => by have := (ho19.lt k hk).1; omega)
    have HST10 : Hid (St w10 w.heap.size va bs) := st_below HST9.out (below_of_own (B := w4.heap.size + 1) hgB hcb9 (fun g h => (ho19.lt g h).1) (by omega))
    have ho210 := owns_grown ho29 hgB (fun k hk h => by have h1 := hv1 k hk; have h2 := hv2 k h; omega)
    have ho110 : w10.ownsRow (w4.heap.size + 1) 2 1 v3 (a ++ [x]).length (cellsInt64S (a ++ [x])) := by simpa using ho3
    have hs10 := hgB.size
    clear ho3 hgA hgB ho19 ho29 HST9 hB9 hv1 hv2
    go_wp2_with fail
    refine (below_any w.heap.size va bs 2 w10 HST10.out hl HZ.out (by omega)).mono ?_
    rintro e w11 ⟨p, rfl, hp0, hp1, _, hst11, hg11⟩
    have hp2 := hp1 (by omega)
    have hB11 : Below w.heap.size w w11 := hB10.grown hg11 hB10.size (fun k hk => by cases hk; exact Nat.le_refl _)
    have ho111 := owns_grown ho110 hg11 (fun k hk h => by cases hk; have := (ho110.lt _ h).1; omega)
    have ho211 := owns_grown ho210 hg11 (fun k hk h => by cases hk; have := (ho210.lt _ h).1; omega)
    have HST11 : Hid (St w11 w.heap.size va bs) := hst11
    clear hst11 hg11 ho110 ho210 hB10 HST10 hp1
    go_wp2_with fail
    refine (from_any w.heap.size va bs (-2) 5 w11 HST11.out hl HZ.out (by omega) (by omega) (by omega)).mono ?_
    rintro e w12 ⟨q, rfl, hq0, hq1, hst12, hg12⟩
    have hB12 : Below w.heap.size w w12 := hB11.grown hg12 hB11.size (fun k hk => by cases hk; exact Nat.le_refl _)
    have hr1 := rd_owns (owns_grown ho111 hg12 (fun k hk h => by cases hk; have := (ho111.lt _ h).1; omega))
    have hr2 := rd_owns (owns_grown ho211 hg12 (fun k hk h => by cases hk; have := (ho211.lt _ h).1; omega))
    clear hst12 hg12 ho111 ho211 hB11 HST11
    rcases (show p = 0 ∨ p = 1 by omega) with rfl | rfl
    all_goals
      go_wp2
      refine bodyPost_ret (results_tmp3' rfl _ _ _) rfl ?_
      exact ⟨_, _, a ++ [x], b, _, rfl, by rw [List.length_append, List.length_singleton]; omega, by omega, hr1, hr2, hB12⟩

end Go.Proofs.Ytndecefcnalgdab
