/- CONTRACTS: what is drawn for cutting: spec.DrawNext, DrawCuts, DrawChunks, DrawGlued, DrawShared; laws.words: whatever the code, some texts, some rule, some lists. -/
import Derived.Test.YtndecefcnalgdaaDrawsC
import Derived.Test.YtndecefcnalgdaaCuts
import Derived.Test.YtndecefcnalgdaaPick
namespace Go.Proofs.Ytndecefcnalgdaa
open Go.RowKit

/-- where a drawing stands whose result is a rule: the cursor lies in block cb, the result's block is as it was laid -/
structure NX (cb : Nat) (v : Value) (bs : List Int) (w w' : World) : Prop where
  st : St w' cb v bs
  be : Below w.heap.size w w'
  res : RuleAt w' w.heap.size 0 0 0 0
  lt : w.heap.size < cb
theorem NX.draw {cb : Nat} {v : Value} {bs : List Int} {w w1 w2 : World} (h : NX cb v bs w w1) (hst : St w2 cb v bs) (hg : w1.grownBy w2 (some cb)) : NX cb v bs w w2 :=
  have h0 := h.lt
  have h1 := st_lt h.st
  ⟨hst, h.be.grown hg h.be.size (fun k e => by cases e; omega), (hg.block w.heap.size (by omega) (fun e => by cases e; omega)).trans h.res, h0⟩
theorem res_fin {w w1 : World} {W P L M : Int} (hb : Below w.heap.size w w1) (hr : RuleAt w1 w.heap.size 0 0 0 0) (wf : World)
    (hw : wf = (((w1.setCell ⟨w.heap.size, 0, none⟩ (.int .i64 W)).setCell ⟨w.heap.size, 1, none⟩ (.int .i64 P)).setCell ⟨w.heap.size, 2, none⟩ (.int .i64 L)).setCell ⟨w.heap.size, 3, none⟩ (.int .i64 M)) :
    RuleAt wf w.heap.size W P L M ∧ Below w.heap.size w wf := by
  subst hw
  exact ⟨ruleAt_set3 (ruleAt_set2 (ruleAt_set1 (ruleAt_set0 hr W) P) L) M, ((((hb.setCell (p := ⟨w.heap.size, 0, none⟩) (Nat.le_refl _) _).setCell (p := ⟨w.heap.size, 1, none⟩) (Nat.le_refl _) _).setCell (p := ⟨w.heap.size, 2, none⟩) (Nat.le_refl _) _).setCell (p := ⟨w.heap.size, 3, none⟩) (Nat.le_refl _) _)⟩

set_option maxHeartbeats 1000000 in
set_option maxRecDepth 100000 in
theorem drawNext_any (va : Value) (bs : List Int) (w : World) (ha : Rd w va (cellsByteS bs)) (hl : bs.length ≤ 4096) (hz : Bytes bs) :
    Calls Try.prog 88 #[va] w fun e w' => ∃ (s : ByteArray) (W P L M : Int), e = .returned (.tuple #[.string s, ruleV W P L M]) ∧ s.size ≤ 60 ∧ Below w.heap.size w w' := by
  have hr0 := heap_alloc_new w (.cells #[.int .i64 0, .int .i64 0, .int .i64 0, .int .i64 0] 56)
  have hb0 := (Below.refl w.heap.size w).alloc (Nat.le_refl _) (.cells #[.int .i64 0, .int .i64 0, .int .i64 0, .int .i64 0] 56)
  have ha0 := rd_below' ha hb0 (Nat.le_refl _)
  have hs0 := World.size_alloc w (.cells #[.int .i64 0, .int .i64 0, .int .i64 0, .int .i64 0] 56)
  have HZ : Hid (∀ j, 0 ≤ bs.getD j 0 ∧ bs.getD j 0 ≤ 255) := codeR hz
  clear hz
  go_enter Try.func88, Try.ntmps88
  go_wp2_with fail
  refine (new_any va bs _ ha0 hl HZ.out).mono ?_
  rintro e w1 ⟨rfl, hst1, hb1, hs1⟩
  have hr1 := (hb1.block w.heap.size (by omega)).trans hr0
  have hB1 := hb0.trans (hb1.mono hb0.size)
  rw [hs0] at hst1 ⊢
  have H1 : Hid (NX (w.heap.size + 1) va bs w w1) := ⟨hst1, hB1, hr1, Nat.lt_succ_self _⟩
  clear ha ha0 hr0 hb0 hb1 hr1 hB1 hst1 hs1 hs0
  go_wp2_with fail
  refine (drawLong_any (w.heap.size + 1) va bs w1 H1.out.st hl HZ.out).mono ?_
  rintro e w2 ⟨s, rfl, hs, hst2, hg2⟩
  have H2 : Hid (NX (w.heap.size + 1) va bs w w2) := H1.out.draw hst2 hg2
  clear hst2 hg2 H1
  go_wp2_with fail
  refine (once_any (w.heap.size + 1) va bs 10 w2 H2.out.st hl HZ.out (by omega)).mono ?_
  rintro e w3 ⟨o, rfl, hst3, hg3⟩
  have H3 : Hid (NX (w.heap.size + 1) va bs w w3) := H2.out.draw hst3 hg3
  clear hst3 hg3 H2
  cases o with
  | true =>
    go_wp2_with fail
    refine (drawText_any (w.heap.size + 1) va bs 3 w3 H3.out.st hl HZ.out (by omega) (by omega)).mono ?_
    rintro e w4 ⟨t, rfl, ht, hst4, hg4⟩
    have H4 : Hid (NX (w.heap.size + 1) va bs w w4) := H3.out.draw hst4 hg4
    clear hst4 hg4 H3
    go_wp2_with fail
    refine (drawRule_any (w.heap.size + 1) va bs w4 H4.out.st hl HZ.out).mono ?_
    rintro e w5 ⟨W, P, L, M, rfl, hst5, hg5⟩
    have H5 : Hid (NX (w.heap.size + 1) va bs w w5) := H4.out.draw hst5 hg5
    clear hst5 hg5 H4
    obtain ⟨g0, g1, g2, g3⟩ := rule_cells rfl H5.out.res
    have i0 := Lib.frozen_of_heap H5.out.res 0
    have i1 := Lib.frozen_of_heap H5.out.res 1
    have i2 := Lib.frozen_of_heap H5.out.res 2
    have i3 := Lib.frozen_of_heap H5.out.res 3
    go_wp2
    generalize hwf : (((w5.setCell ⟨w.heap.size, 0, none⟩ (.int .i64 W)).setCell ⟨w.heap.size, 1, none⟩ (.int .i64 P)).setCell ⟨w.heap.size, 2, none⟩ (.int .i64 L)).setCell ⟨w.heap.size, 3, none⟩ (.int .i64 M) = wf
    obtain ⟨k1, k2⟩ := res_fin H5.out.be H5.out.res wf hwf.symm
    obtain ⟨q0, q1, q2, q3⟩ := rule_cells rfl k1
    clear hwf
    exact bodyPost_ret (v := .tuple #[.string t, ruleV W P L M]) (by simp [results, Try.results88, go_sem, q0, q1, q2, q3]) rfl ⟨_, _, _, _, _, rfl, by omega, k2⟩
  | false =>
    go_wp2_with fail
    refine (drawRule_any (w.heap.size + 1) va bs w3 H3.out.st hl HZ.out).mono ?_
    rintro e w5 ⟨W, P, L, M, rfl, hst5, hg5⟩
    have H5 : Hid (NX (w.heap.size + 1) va bs w w5) := H3.out.draw hst5 hg5
    clear hst5 hg5 H3
    obtain ⟨g0, g1, g2, g3⟩ := rule_cells rfl H5.out.res
    have i0 := Lib.frozen_of_heap H5.out.res 0
    have i1 := Lib.frozen_of_heap H5.out.res 1
    have i2 := Lib.frozen_of_heap H5.out.res 2
    have i3 := Lib.frozen_of_heap H5.out.res 3
    go_wp2
    generalize hwf : (((w5.setCell ⟨w.heap.size, 0, none⟩ (.int .i64 W)).setCell ⟨w.heap.size, 1, none⟩ (.int .i64 P)).setCell ⟨w.heap.size, 2, none⟩ (.int .i64 L)).setCell ⟨w.heap.size, 3, none⟩ (.int .i64 M) = wf
    obtain ⟨k1, k2⟩ := res_fin H5.out.be H5.out.res wf hwf.symm
    obtain ⟨q0, q1, q2, q3⟩ := rule_cells rfl k1
    clear hwf
    exact bodyPost_ret (v := .tuple #[.string s, ruleV W P L M]) (by simp [results, Try.results88, go_sem, q0, q1, q2, q3]) rfl ⟨_, _, _, _, _, rfl, hs, k2⟩


set_option maxRecDepth 100000 in
theorem drawChunks_any (va : Value) (bs : List Int) (w : World) (ha : Rd w va (cellsByteS bs)) (hl : bs.length ≤ 4096) (hz : Bytes bs) :
    Calls Try.prog 50 #[va] w fun e w' => ∃ (s : ByteArray) (W P L M : Int), e = .returned (.tuple #[.string s, ruleV W P L M]) ∧ s.size ≤ 60 ∧ Below w.heap.size w w' := by
  have hr0 := heap_alloc_new w (.cells #[.int .i64 0, .int .i64 0, .int .i64 0, .int .i64 0] 56)
  have hb0 := (Below.refl w.heap.size w).alloc (Nat.le_refl _) (.cells #[.int .i64 0, .int .i64 0, .int .i64 0, .int .i64 0] 56)
  have ha0 := rd_below' ha hb0 (Nat.le_refl _)
  go_enter Try.func50, Try.ntmps50
  go_wp2_with fail
  refine (drawNext_any va bs _ ha0 hl hz).mono ?_
  rintro e w5 ⟨s, W, P, L, M, rfl, hs, hb5⟩
  have hr5 : RuleAt w5 w.heap.size 0 0 0 0 := (hb5.block w.heap.size (by simp)).trans hr0
  have hB5 := hb0.trans (hb5.mono hb0.size)
  obtain ⟨g0, g1, g2, g3⟩ := rule_cells rfl hr5
  have i0 := Lib.frozen_of_heap hr5 0
  have i1 := Lib.frozen_of_heap hr5 1
  have i2 := Lib.frozen_of_heap hr5 2
  have i3 := Lib.frozen_of_heap hr5 3
  have HR : Hid (RuleAt w5 w.heap.size 0 0 0 0) := hr5
  clear ha ha0 hr0 hb0 hb5 hr5
  go_wp2
  generalize hwf : (((w5.setCell ⟨w.heap.size, 0, none⟩ (.int .i64 W)).setCell ⟨w.heap.size, 1, none⟩ (.int .i64 P)).setCell ⟨w.heap.size, 2, none⟩ (.int .i64 L)).setCell ⟨w.heap.size, 3, none⟩ (.int .i64 M) = wf
  obtain ⟨k1, k2⟩ := res_fin hB5 HR.out wf hwf.symm
  obtain ⟨q0, q1, q2, q3⟩ := rule_cells rfl k1
  clear hwf
  exact bodyPost_ret (v := .tuple #[.string s, ruleV W P L M]) (by simp [results, Try.results50, go_sem, q0, q1, q2, q3]) rfl ⟨_, _, _, _, _, rfl, hs, k2⟩

/-- some word -/
abbrev wordC : Array Value := #[.string ⟨#[99, 101, 108, 108, 97, 114, 32]⟩, .string ⟨#[115, 116, 111, 110, 101, 32]⟩, .string ⟨#[118, 97, 117, 108, 116, 32, 111, 102, 32]⟩, .string ⟨#[111, 108, 100, 32]⟩, .string ⟨#[119, 105, 110, 101]⟩]
theorem wordC_get (j : Nat) (h : j < 5) : ∃ z : ByteArray, wordC[j]? = some (.string z) ∧ 4 ≤ z.size ∧ z.size ≤ 9 := by
  rcases (show j = 0 ∨ j = 1 ∨ j = 2 ∨ j = 3 ∨ j = 4 by omega) with rfl | rfl | rfl | rfl | rfl
  · exact ⟨_, rfl, by decide, by decide⟩
  · exact ⟨_, rfl, by decide, by decide⟩
  · exact ⟨_, rfl, by decide, by decide⟩
  · exact ⟨_, rfl, by decide, by decide⟩
  · exact ⟨_, rfl, by decide, by decide⟩


theorem rd_two (X : World) (z t : ByteArray) : Rd (X.alloc (.cells #[.string z, .string t] 9)) (.slice (some ⟨X.heap.size, 0, none⟩) 2 2) (cellsS [z, t]) := by
  refine ⟨_, 2, rfl, Nat.le_refl _, fun _ => ⟨X.heap.size, 0, rfl, by simp, fun j hj => ?_⟩⟩
  have hj2 : j < 2 := hj
  rw [Nat.zero_add, World.cell?_alloc_at _ _ _ _ rfl]
  rcases (show j = 0 ∨ j = 1 by omega) with rfl | rfl <;> rfl

set_option maxHeartbeats 2000000 in
set_option maxRecDepth 100000 in
theorem drawGlued_any (va : Value) (bs : List Int) (w : World) (ha : Rd w va (cellsByteS bs)) (hl : bs.length ≤ 4096) (hz : Bytes bs) :
    Calls Try.prog 53 #[va] w fun e w' => ∃ (v : Value) (l : List ByteArray), e = .returned v ∧ l.length ≤ 300 ∧ (∀ s ∈ l, s.size ≤ 30000) ∧ Rd w' v (cellsS l) ∧ Below w.heap.size w w' := by
  obtain ⟨i0, hi, hz0, hz1, hz2⟩ := info_parts Try.infoB
  have HZ : Hid (∀ j, 0 ≤ bs.getD j 0 ∧ bs.getD j 0 ≤ 255) := codeR hz
  clear hz
  go_enter Try.func53, Try.ntmps53
  go_wp2_with fail
  refine (new_any va bs w ha hl HZ.out).mono ?_
  rintro e w1 ⟨rfl, hst1, hb1, hs1⟩
  clear ha
  go_wp2_with fail
  refine (once_any w.heap.size va bs 30 w1 hst1 hl HZ.out (by omega)).mono ?_
  rintro e w2 ⟨o, rfl, hst2, hg2⟩
  have hb2 : Below w.heap.size w w2 := hb1.grown hg2 hb1.size (fun k hk => by cases hk; exact Nat.le_refl _)
  have hs2 := hg2.size
  have HST2 : Hid (St w2 w.heap.size va bs) := hst2
  clear hst1 hst2 hg2 hb1
  cases o with
  | false =>
    go_wp2_with fail
    refine (drawTexts2_any w.heap.size va bs w2 HST2.out hl HZ.out).mono ?_
    rintro e w3 ⟨v, l, rfl, hll, hls, ho, hst3, hg3⟩
    have hb3 : Below w.heap.size w w3 := hb2.grown hg3 hb2.size (fun k hk => by cases hk; exact Nat.le_refl _)
    have hrd := rd_owns ho
    clear HST2 hst3 hg3 ho
    go_wp2
    go_ret
    exact ⟨_, l, rfl, hll, fun s hs => by have := hls s hs; omega, hrd, hb3⟩
  | true =>
    have hmk : ∀ W : World, (Instr.makeSlice 22 (.int .i64 20000) (.int .i64 20000)).run Try.prog W = .ok (.slice (some ⟨W.heap.size, 0, none⟩) 20000 20000) (W.alloc (.cells (madeCells (Value.int .u8 0).cells (20000 * i0.size)) 5)) := fun W => by
      have h := run_make (P := Try.prog) W 22 5 i0 (.int .u8 0) Try.underlying22 hi hz0 .i64 .i64 20000 20000 (by omega) (by omega) (by rw [hz2]; omega) (by omega)
      simpa using h
    obtain ⟨M, hM⟩ : ∃ M, M = madeCells (Value.int .u8 0).cells (20000 * i0.size) := ⟨_, rfl⟩
    have hMl : M.toList = cellsByteS (List.replicate 20000 0) := by
      rw [hM, hz1, cellsByteS, List.map_replicate]
      exact toList_madeCells_one (.int .u8 0) 20000
    rw [← hM] at hmk
    clear hM
    have hZB : Bytes (List.replicate 20000 (0 : Int)) := zeros_bytes 20000
    have hZL : (List.replicate 20000 (0 : Int)).length = 20000 := List.length_replicate
    generalize List.replicate 20000 (0 : Int) = Z at hMl hZB hZL
    have hcv : ∀ (W : World) (g : Nat), W.heap[g]? = some (.cells M 5 (0, 0)) → (convert 22 9 (.slice (some ⟨g, 0, none⟩) 20000 20000)).run Try.prog W = .ok (.string (asB Z)) W := fun W g hg => by
      have h := str_of W g 0 20000 20000 Z hZB (by omega) (fun j hj => by
        rw [Nat.zero_add, Lib.cell_of_heap hg, ← Array.getElem?_toList, hMl]
        exact ints_get .u8 Z j hj)
      rw [List.take_of_length_le (by omega)] at h
      exact h
    have hzs : (asB Z).size = 20000 := by rw [asB_size]; exact hZL
    generalize asB Z = z at hcv hzs
    clear hMl hZB hZL
    have hcv1 : ∀ W : World, (convert 22 9 (.slice (some ⟨W.heap.size, 0, none⟩) 20000 20000)).run Try.prog (W.alloc (.cells M 5)) = .ok (.string z) (W.alloc (.cells M 5)) := fun W => hcv _ _ (heap_alloc_new W _)
    have hcv2 : ∀ W : World, (convert 22 9 (.slice (some ⟨W.heap.size, 0, none⟩) 20000 20000)).run Try.prog (W.alloc (.cells M 5)).drew = .ok (.string z) (W.alloc (.cells M 5)).drew := fun W => hcv _ _ (heap_alloc_new W _)
    go_wp2
    have HSTd : Hid (St w2.drew w.heap.size va bs) := HST2.out
    have HSTa : Hid (St (w2.alloc (.cells M 5)).drew w.heap.size va bs) := st_below HST2.out ((Below.refl (w.heap.size + 1) w2).alloc (by omega) _).drew
    have hBd : Below w.heap.size w w2.drew := hb2.drew
    have hBa : Below w.heap.size w (w2.alloc (.cells M 5)).drew := (hb2.alloc hb2.size _).drew
    have hga : (w2.alloc (.cells M 5)).drew.heap[w2.heap.size]? = some (.cells M 5 (0, 0)) := heap_alloc_new w2 (.cells M 5)
    have hsa : (w2.alloc (.cells M 5)).drew.heap.size = w2.heap.size + 1 := World.size_alloc w2 _
    go_region_with (first
      | (go_at_call 66; refine (drawText_any w.heap.size va bs 1 _ HSTd.out hl HZ.out (by omega) (by omega)).mono ?_; rintro e w4 ⟨t, rfl, ht, hst4, hg4⟩; have hB4 : Below w.heap.size w w4 := hBd.grown hg4 hBd.size (fun k hk => by cases hk; exact Nat.le_refl _); clear hst4 hg4)
      | (go_at_call 66; refine (drawText_any w.heap.size va bs 1 _ HSTa.out hl HZ.out (by omega) (by omega)).mono ?_; rintro e w4 ⟨t, rfl, ht, hst4, hg4⟩; have hB4 : Below w.heap.size w w4 := hBa.grown hg4 hBa.size (fun k hk => by cases hk; exact Nat.le_refl _); have hc4 := hcv w4 w2.heap.size ((hg4.block w2.heap.size (by omega) (fun e => by simp only [Option.some.injEq] at e; omega)).trans hga); clear hst4 hg4))
    all_goals
      clear hcv hcv1 hcv2 hmk HSTd HSTa hga hsa
      rw [Exit.then_normal]
      go_wp2
      go_ret
      have hzt : ∀ s ∈ [z, t], s.size ≤ 30000 := fun s hs => by
        rcases List.mem_cons.1 hs with rfl | hs
        · omega
        · rw [List.mem_singleton.1 hs]; omega
      first
        | exact ⟨_, [z, t], rfl, by simp, hzt, rd_two w4 z t, hB4.alloc hB4.size _⟩
        | exact ⟨_, [z, t], rfl, by simp, hzt, (by have h := rd_two (w4.alloc (.cells M 5)) z t; rw [World.size_alloc] at h; exact h), (hB4.alloc hB4.size _).alloc (by have := hB4.size; simp; omega) _⟩

theorem cutsT_max (s : ByteArray) (W P L M : Int) : (cutsT s W P L M).length ≤ 20000 := by
  unfold cutsT
  split
  · rename_i h
    obtain ⟨W, L, M, rfl, rfl, rfl, hok⟩ := ruleB_ok h.1
    have := cuts_count (okn_next (W := W) (P := P) (L := L) (M := M) (by omega) hok.2.2.2.1) (byts s) 0 (Nat.zero_le _)
    rw [byts_len] at this
    have e := cutsI_len s W P L M
    unfold cutsN at e
    show (cutsI s W P L M).length ≤ 20000
    omega
  · simp
theorem results_tmp3' {fn : Func} {t u x : Tmp} (h : fn.results = #[.tmp t, .tmp u, .tmp x]) (tmps : Array Value) (P : Program) (w : World) :
    (results fn tmps).run P w = .ok (.tuple #[tmps.getD t undef, tmps.getD u undef, tmps.getD x undef]) w := by
  simp [results, h]


end Go.Proofs.Ytndecefcnalgdaa
