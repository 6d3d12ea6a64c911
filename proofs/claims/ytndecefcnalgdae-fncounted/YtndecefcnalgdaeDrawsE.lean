/- CONTRACTS: what is drawn for cutting: spec.DrawNext, DrawCuts, DrawChunks, DrawGlued, DrawShared; laws.words: whatever the code, some texts, some rule, some lists. -/
import Derived.Test.YtndecefcnalgdaeDrawsC
import Derived.Test.YtndecefcnalgdaeCuts
import Derived.Test.YtndecefcnalgdaePick
namespace Go.Proofs.Ytndecefcnalgdae
open Go.RowKit

/-- where a drawing stands whose result is a rule: the cursor lies in block cb, the result's block is as it was laid -/
structure NX (cb : Nat) (v : Value) (bs : List Int) (w w' : World) : Prop where
  st : St w' cb v bs
  be : Below w.heap.size w w'
  res : RuleAt w' w.heap.size 0 0 0 0
  lt : w.heap.size < cb
theorem NX.draw {cb : Nat} {v : Value} {bs : List Int} {w w1 w2 : World} (h : NX cb v bs w w1) (hst : St w2 cb v bs) (hg : w1.grownBy w2 (some cb)) : NX cb v bs w w2 :=
  have h0 := h.lt
  have h1 := st_lt h.st
  ⟨hst, h.be.grown hg h.be.size (fun k e => by cases e; omega), (hg.block w.heap.size (by omega) (fun e => by cases e; omega)).trans h.res, h0⟩
theorem res_fin {w w1 : World} {W P L M : Int} (hb : Below w.heap.size w w1) (hr : RuleAt w1 w.heap.size 0 0 0 0) (wf : World)
    (hw : wf = (((w1.setCell ⟨w.heap.size, 0, none⟩ (.int .i64 W)).setCell ⟨w.heap.size, 1, none⟩ (.int .i64 P)).setCell ⟨w.heap.size, 2, none⟩ (.int .i64 L)).setCell ⟨w.heap.size, 3, none⟩ (.int .i64 M)) :
    RuleAt wf w.heap.size W P L M ∧ Below w.heap.size w wf := by
  subst hw
  exact ⟨ruleAt_set3 (ruleAt_set2 (ruleAt_set1 (ruleAt_set0 hr W) P) L) M, ((((hb.setCell (p := ⟨w.heap.size, 0, none⟩) (Nat.le_refl _) _).setCell (p := ⟨w.heap.size, 1, none⟩) (Nat.le_refl _) _).setCell (p := ⟨w.heap.size, 2, none⟩) (Nat.le_refl _) _).setCell (p := ⟨w.heap.size, 3, none⟩) (Nat.le_refl _) _)⟩

set_option maxHeartbeats 1000000 in
set_option maxRecDepth 100000 in
theorem drawNext_any (va : Value) (bs : List Int) (w : World) (ha : Rd w va (cellsByteS bs)) (hl : bs.length ≤ 4096) (hz : Bytes bs) :
    Calls Try.prog 5 #[va] w fun e w' => ∃ (s : ByteArray) (W P L M : Int), e = .returned (.tuple #[.string s, ruleV W P L M]) ∧ s.size ≤ 60 ∧ Below w.heap.size w w' := by
  have hr0 := heap_alloc_new w (.cells #[.int .i64 0, .int .i64 0, .int .i64 0, .int .i64 0] 25)
  have hb0 := (Below.refl w.heap.size w).alloc (Nat.le_refl _) (.cells #[.int .i64 0, .int .i64 0, .int .i64 0, .int .i64 0] 25)
  have ha0 := rd_below' ha hb0 (Nat.le_refl _)
  have hs0 := World.size_alloc w (.cells #[.int .i64 0, .int .i64 0, .int .i64 0, .int .i64 0] 25)
  have HZ : Hid (∀ j, 0 ≤ bs.getD j 0 ∧ bs.getD j 0 ≤ 255) := codeR hz
  clear hz
  go_enter Try.func5, Try.ntmps5
  go_wp2_with fail
  refine (new_any va bs _ ha0 hl HZ.out).mono ?_
  rintro e w1 ⟨rfl, hst1, hb1, hs1⟩
  have hr1 := (hb1.block w.heap.size (by omega)).trans hr0
  have hB1 := hb0.trans (hb1.mono hb0.size)
  rw [hs0] at hst1 ⊢
  have H1 : Hid (NX (w.heap.size + 1) va bs w w1) := ⟨hst1, hB1, hr1, Nat.lt_succ_self _⟩
  clear ha ha0 hr0 hb0 hb1 hr1 hB1 hst1 hs1 hs0
  go_wp2_with fail
  refine (drawLong_any (w.heap.size + 1) va bs w1 H1.out.st hl HZ.out).mono ?_
  rintro e w2 ⟨s, rfl, hs, hst2, hg2⟩
  have H2 : Hid (NX (w.heap.size + 1) va bs w w2) := H1.out.draw hst2 hg2
  clear hst2 hg2 H1
  go_wp2_with fail
  refine (once_any (w.heap.size + 1) va bs 10 w2 H2.out.st hl HZ.out (by omega)).mono ?_
  rintro e w3 ⟨o, rfl, hst3, hg3⟩
  have H3 : Hid (NX (w.heap.size + 1) va bs w w3) := H2.out.draw hst3 hg3
  clear hst3 hg3 H2
  cases o with
  | true =>
    go_wp2_with fail
    refine (drawText_any (w.heap.size + 1) va bs 3 w3 H3.out.st hl HZ.out (by omega) (by omega)).mono ?_
    rintro e w4 ⟨t, rfl, ht, hst4, hg4⟩
    have H4 : Hid (NX (w.heap.size + 1) va bs w w4) := H3.out.draw hst4 hg4
    clear hst4 hg4 H3
    go_wp2_with fail
    refine (drawRule_any (w.heap.size + 1) va bs w4 H4.out.st hl HZ.out).mono ?_
    rintro e w5 ⟨W, P, L, M, rfl, hst5, hg5⟩
    have H5 : Hid (NX (w.heap.size + 1) va bs w w5) := H4.out.draw hst5 hg5
    clear hst5 hg5 H4
    obtain ⟨g0, g1, g2, g3⟩ := rule_cells rfl H5.out.res
    have i0 := Lib.frozen_of_heap H5.out.res 0
    have i1 := Lib.frozen_of_heap H5.out.res 1
    have i2 := Lib.frozen_of_heap H5.out.res 2
    have i3 := Lib.frozen_of_heap H5.out.res 3
    go_wp2
    generalize hwf : (((w5.setCell ⟨w.heap.size, 0, none⟩ (.int .i64 W)).setCell ⟨w.heap.size, 1, none⟩ (.int .i64 P)).setCell ⟨w.heap.size, 2, none⟩ (.int .i64 L)).setCell ⟨w.heap.size, 3, none⟩ (.int .i64 M) = wf
    obtain ⟨k1, k2⟩ := res_fin H5.out.be H5.out.res wf hwf.symm
    obtain ⟨q0, q1, q2, q3⟩ := rule_cells rfl k1
    clear hwf
    exact bodyPost_ret (v := .tuple #[.string t, ruleV W P L M]) (by simp [results, Try.results5, go_sem, q0, q1, q2, q3]) rfl ⟨_, _, _, _, _, rfl, by omega, k2⟩
  | false =>
    go_wp2_with fail
    refine (drawRule_any (w.heap.size + 1) va bs w3 H3.out.st hl HZ.out).mono ?_
    rintro e w5 ⟨W, P, L, M, rfl, hst5, hg5⟩
    have H5 : Hid (NX (w.heap.size + 1) va bs w w5) := H3.out.draw hst5 hg5
    clear hst5 hg5 H3
    obtain ⟨g0, g1, g2, g3⟩ := rule_cells rfl H5.out.res
    have i0 := Lib.frozen_of_heap H5.out.res 0
    have i1 := Lib.frozen_of_heap H5.out.res 1
    have i2 := Lib.frozen_of_heap H5.out.res 2
    have i3 := Lib.frozen_of_heap H5.out.res 3
    go_wp2
    generalize hwf : (((w5.setCell ⟨w.heap.size, 0, none⟩ (.int .i64 W)).setCell ⟨w.heap.size, 1, none⟩ (.int .i64 P)).setCell ⟨w.heap.size, 2, none⟩ (.int .i64 L)).setCell ⟨w.heap.size, 3, none⟩ (.int .i64 M) = wf
    obtain ⟨k1, k2⟩ := res_fin H5.out.be H5.out.res wf hwf.symm
    obtain ⟨q0, q1, q2, q3⟩ := rule_cells rfl k1
    clear hwf
    exact bodyPost_ret (v := .tuple #[.string s, ruleV W P L M]) (by simp [results, Try.results5, go_sem, q0, q1, q2, q3]) rfl ⟨_, _, _, _, _, rfl, hs, k2⟩



/-- some word -/
abbrev wordC : Array Value := #[.string ⟨#[99, 101, 108, 108, 97, 114, 32]⟩, .string ⟨#[115, 116, 111, 110, 101, 32]⟩, .string ⟨#[118, 97, 117, 108, 116, 32, 111, 102, 32]⟩, .string ⟨#[111, 108, 100, 32]⟩, .string ⟨#[119, 105, 110, 101]⟩]
theorem wordC_get (j : Nat) (h : j < 5) : ∃ z : ByteArray, wordC[j]? = some (.string z) ∧ 4 ≤ z.size ∧ z.size ≤ 9 := by
  rcases (show j = 0 ∨ j = 1 ∨ j = 2 ∨ j = 3 ∨ j = 4 by omega) with rfl | rfl | rfl | rfl | rfl
  · exact ⟨_, rfl, by decide, by decide⟩
  · exact ⟨_, rfl, by decide, by decide⟩
  · exact ⟨_, rfl, by decide, by decide⟩
  · exact ⟨_, rfl, by decide, by decide⟩
  · exact ⟨_, rfl, by decide, by decide⟩


theorem rd_two (X : World) (z t : ByteArray) : Rd (X.alloc (.cells #[.string z, .string t] 9)) (.slice (some ⟨X.heap.size, 0, none⟩) 2 2) (cellsS [z, t]) := by
  refine ⟨_, 2, rfl, Nat.le_refl _, fun _ => ⟨X.heap.size, 0, rfl, by simp, fun j hj => ?_⟩⟩
  have hj2 : j < 2 := hj
  rw [Nat.zero_add, World.cell?_alloc_at _ _ _ _ rfl]
  rcases (show j = 0 ∨ j = 1 by omega) with rfl | rfl <;> rfl


theorem cutsT_max (s : ByteArray) (W P L M : Int) : (cutsT s W P L M).length ≤ 20000 := by
  unfold cutsT
  split
  · rename_i h
    obtain ⟨W, L, M, rfl, rfl, rfl, hok⟩ := ruleB_ok h.1
    have := cuts_count (okn_next (W := W) (P := P) (L := L) (M := M) (by omega) hok.2.2.2.1) (byts s) 0 (Nat.zero_le _)
    rw [byts_len] at this
    have e := cutsI_len s W P L M
    unfold cutsN at e
    show (cutsI s W P L M).length ≤ 20000
    omega
  · simp
theorem results_tmp3' {fn : Func} {t u x : Tmp} (h : fn.results = #[.tmp t, .tmp u, .tmp x]) (tmps : Array Value) (P : Program) (w : World) :
    (results fn tmps).run P w = .ok (.tuple #[tmps.getD t undef, tmps.getD u undef, tmps.getD x undef]) w := by
  simp [results, h]


end Go.Proofs.Ytndecefcnalgdae
