/- CONTRACTS: spec.l7Draw, l7DrawAny, l7DrawDigests, DrawPut, DrawGet, DrawDrop: whatever the code, some blobs. -/
import Derived.Test.YtfoncmeplofedabDrawTX
import Derived.Test.YtfoncmeplofedabStoM
import Derived.Deep.RegionLaw
namespace Go.Proofs.Ytfoncmeplofedab
open Go.RowKit
set_option linter.unusedVariables false
theorem gr_below {w0 w1 w2 : World} {cb : Nat} (hg : w0.grownBy w1 (some cb)) (hb : Below w1.heap.size w1 w2) : w0.grownBy w2 (some cb) :=
  ⟨hb.os.trans hg.os, hb.tape.trans hg.tape, hb.output.trans hg.output, Nat.le_trans hg.size hb.size, fun k hk hne => (hb.block k (Nat.lt_of_lt_of_le hk hg.size)).trans (hg.block k hk hne)⟩
theorem gr_own {w0 w1 w2 : World} {cb : Nat} {row : Option Nat} (hg : w0.grownBy w1 (some cb)) (hb : w1.grownBy w2 row) (hr : ∀ g, row = some g → w0.heap.size ≤ g) : w0.grownBy w2 (some cb) :=
  ⟨hb.os.trans hg.os, hb.tape.trans hg.tape, hb.output.trans hg.output, Nat.le_trans hg.size hb.size, fun k hk hne => (hb.block k (Nat.lt_of_lt_of_le hk hg.size) (fun e => by have := hr k e.symm; omega)).trans (hg.block k hk hne)⟩
theorem insB_sub {l : List Bl} {p q : Bl} (h : q ∈ insB l p) : q = p ∨ q ∈ l := by
  unfold insB at h
  rw [List.mem_append, List.mem_cons, List.mem_filter, List.mem_filter] at h
  rcases h with h | h | h
  · exact Or.inr h.1
  · exact Or.inl h
  · exact Or.inr h.1
theorem putT_sub {l : List Bl} {s : ByteArray} {q : Bl} (h : q ∈ (putT l s).1) : q = (digest s, s) ∨ q ∈ l := by
  revert h
  unfold putT
  by_cases h1 : storeB l = true
  · rw [if_pos h1]
    by_cases h2 : 2000 < s.size
    · rw [if_pos h2]; exact Or.inr
    · rw [if_neg h2]
      cases findB l (digest s) with
      | some p =>
        simp only
        by_cases h3 : p.2 = s
        · rw [if_pos h3]; exact Or.inr
        · rw [if_neg h3]; exact Or.inr
      | none =>
        simp only
        by_cases h3 : l.length = 300
        · rw [if_pos h3]; exact Or.inr
        · rw [if_neg h3]; exact insB_sub
  · rw [if_neg h1]
    intro h
    cases h
theorem putT_len (l : List Bl) (s : ByteArray) : (putT l s).1.length ≤ l.length + 1 := by
  unfold putT
  by_cases h1 : storeB l = true
  · rw [if_pos h1]
    by_cases h2 : 2000 < s.size
    · rw [if_pos h2]; exact Nat.le_succ _
    · rw [if_neg h2]
      cases hf : findB l (digest s) with
      | some p =>
        simp only
        by_cases h3 : p.2 = s
        · rw [if_pos h3]; exact Nat.le_succ _
        · rw [if_neg h3]; exact Nat.le_succ _
      | none =>
        simp only
        by_cases h3 : l.length = 300
        · rw [if_pos h3]; exact Nat.le_succ _
        · rw [if_neg h3]
          exact Nat.le_of_eq (insB_len (findB_none.1 hf))
  · rw [if_neg h1]
    exact Nat.zero_le _
theorem put_small {l : List Bl} {s : ByteArray} {B : Nat} (h : ∀ p ∈ l, p.2.size ≤ B) (hs : s.size ≤ B) : ∀ p ∈ (putT l s).1, p.2.size ≤ B := fun p hp => by
  rcases putT_sub hp with rfl | hp
  · exact hs
  · exact h p hp
def Sm (l : List Bl) (B : Nat) : Prop := ∀ p ∈ l, p.2.size ≤ B
theorem owns_far {w w' : World} {base cb : Nat} {e : TypeId} {size : Nat} {v : Value} {n : Nat} {xs : List Value} (h : w.ownsRow base e size v n xs) (hg : w.grownBy w' (some cb)) (hb : cb < base) : w'.ownsRow base e size v n xs :=
  owns_grown h hg (fun k hk h2 => by cases hk; have := (h.lt cb h2).1; omega)
theorem fa_put {l : List Bl} {s : ByteArray} (h : Fa l) (hs : digest s ≠ 422356391) : Fa (putT l s).1 := fun p hp => by
  rcases putT_sub hp with rfl | hp
  · exact ⟨rfl, hs⟩
  · exact h p hp
theorem far_set {l : List Bl} {i : Nat} {x : Bl} (h : Far l) (hx : (x.1 = digest x.2 → x.1 ≠ 422356391) ∧ In64 x.1) : Far (l.set i x) := fun p hp => by
  rcases List.mem_or_eq_of_mem_set hp with h1 | h1
  · exact h p h1
  · rw [h1]; exact hx
theorem far_append {l m : List Bl} (h : Far l) (k : Far m) : Far (l ++ m) := fun p hp => by
  rcases List.mem_append.1 hp with h1 | h1
  · exact h p h1
  · exact k p h1
theorem far_none {l : List Bl} {s : ByteArray} (h : Far l) (hz : 2000 < s.size → digest s = 422356391) (hs : storeB l = true) (h2 : 2000 < s.size) : findB l (digest s) = none := findB_none.2 fun p hp e => by
  rw [hz h2] at e
  exact (h p hp).1 ((storeB_iff.1 hs).2.1 p hp).2 e
set_option maxHeartbeats 2000000 in
set_option maxRecDepth 100000 in
theorem l7Draw_any (cb : Nat) (v : Value) (bs : List Int) (w : World) (hst : St w cb v bs) (hl : bs.length ≤ 4096) (hz : ∀ j, 0 ≤ bs.getD j 0 ∧ bs.getD j 0 ≤ 255) :
    Calls Try.prog 162 #[.pointer (some ⟨cb, 0, none⟩)] w fun e w' => ∃ (u : Value) (l : List Bl), e = .returned u ∧ l.length ≤ 7 ∧ Sm l 9 ∧ Fa l ∧ w'.ownsRow w.heap.size 70 2 u l.length (blC l) ∧ St w' cb v bs ∧ w.grownBy w' (some cb) := by
  have hcb := st_lt hst
  have HZ := Lib.hid hz
  have ho0 : (w.alloc (.cells #[] 70)).ownsRow w.heap.size 70 2 (.slice (some ⟨w.heap.size, 0, none⟩) 0 0) 0 (blC []) := World.ownsRow_lit (base := w.heap.size) (e := 70) (size := 2) w #[] 0 (Nat.le_refl _) (Nat.zero_le _) rfl
  have hst0 : St (w.alloc (.cells #[] 70)) cb v bs := st_below hst ((Below.refl _ _).alloc (by omega) _)
  have hg0 : w.grownBy (w.alloc (.cells #[] 70)) (some cb) := World.grownBy_alloc w _ _
  clear hst hz
  go_enter Try.func162, Try.ntmps162
  go_wp2_with fail
  refine (below_any cb v bs 7 _ hst0 hl HZ.out (by omega)).mono ?_
  rintro e w2 ⟨n, rfl, hn0, hn1, _, hst2, hg2⟩
  have hn2 := hn1 (by omega)
  have ho2 := owns_far ho0 hg2 hcb
  have hgr2 := grown_trans hg0 hg2
  clear ho0 hg0 hg2 hst0 hn1
  go_wp2
  go_loopw [3, 4] (fun b q wr => ∃ (m : Int) (acc : List Bl), q = .int .i64 m ∧ 0 ≤ m ∧ (acc.length : Int) + m ≤ 7 ∧ Sm acc 9 ∧ Fa acc ∧ wr.ownsRow w.heap.size 70 2 b acc.length (blC acc) ∧ St wr cb v bs ∧ w.grownBy wr (some cb)) (fun _ q _ => (intOf q).toNat)
  case atStart => exact ⟨n, [], rfl, hn0, by simp; omega, (fun p hp => absurd hp List.not_mem_nil), (fun p hp => absurd hp List.not_mem_nil), ho2, hst2, hgr2⟩
  case round =>
    obtain ⟨m, acc, rfl, hm0, hm1, hall, hfa, ho, hst3, hgr⟩ := hrel
    clear ho2 hst2 hgr2
    by_cases hlt : 0 < m
    · go_wp2_with fail
      refine (drawText2X_any cb v bs _ hst3 hl HZ.out).mono ?_
      rintro e w4 ⟨r, rfl, ⟨hr9, hrD⟩, hst4, hg4⟩
      have ho4 := owns_far ho hg4 hcb
      have hgr4 := grown_trans hgr hg4
      have hsmall := put_small (B := 9) hall hr9
      have hfa2 := fa_put hfa hrD
      have hplen := putT_len acc r
      have hcall := specPut_any _ acc r w4 (rdB_owns ho4) (by omega) (fun p hp => by have := hall p hp; omega) (by omega)
      obtain ⟨R, hR⟩ : ∃ R, R = putT acc r := ⟨_, rfl⟩
      rw [← hR] at hsmall hplen hcall hfa2
      obtain ⟨R1, R2, R3⟩ := R
      simp only at hsmall hplen hcall hfa2
      clear hst3 ho hgr hg4 hR
      go_wp2_with fail
      refine hcall.mono ?_
      rintro e w5 ⟨v5, rfl, ho5, hb5⟩
      have hst5 := st_below hst4 (hb5.mono (st_lt hst4))
      have ho6 := owns_base ho5 hgr4.size
      have hgr5 := gr_below hgr4 hb5
      clear ho5 hb5 hst4 ho4 hgr4 hcall
      go_wp2
      go_roundw
      case rel => exact ⟨m - 1, R1, by go_num, by omega, by omega, hsmall, hfa2, ho6, hst5, hgr5⟩
      case measure => simp [intOf]; omega
    · go_wp2
      go_ret
      exact ⟨_, rfl, acc, by omega, hall, hfa, ho, hst3, hgr⟩
theorem blC_set0 : ∀ (l : List Bl) (i : Nat) (x : Int), i < l.length → (blC l).set (i * 2) (.int .i64 x) = blC (l.set i (x, (l.getD i bl0).2))
  | q :: t, 0, x, _ => rfl
  | q :: t, i + 1, x, h => by
    have e := blC_set0 t i x (by simpa using h)
    rw [blC_cons, show (i + 1) * 2 = i * 2 + 1 + 1 by omega, List.set_cons_succ, List.set_cons_succ, e, List.set_cons_succ, blC_cons]
    rfl
theorem blC_set1 : ∀ (l : List Bl) (i : Nat) (y : ByteArray), i < l.length → (blC l).set (i * 2 + 1) (.string y) = blC (l.set i ((l.getD i bl0).1, y))
  | q :: t, 0, x, _ => rfl
  | q :: t, i + 1, x, h => by
    have e := blC_set1 t i x (by simpa using h)
    rw [blC_cons, show (i + 1) * 2 + 1 = i * 2 + 1 + 1 + 1 by omega, List.set_cons_succ, List.set_cons_succ, e, List.set_cons_succ, blC_cons]
    rfl
theorem sm_set {l : List Bl} {B i : Nat} {x : Bl} (h : Sm l B) (hx : x.2.size ≤ B) : Sm (l.set i x) B := fun p hp => by
  rcases List.mem_or_eq_of_mem_set hp with h1 | h1
  · exact h p h1
  · rw [h1]; exact hx
theorem sm_get {l : List Bl} {B i : Nat} (h : Sm l B) (hi : i < l.length) : (l.getD i bl0).2.size ≤ B := by
  rw [getD_at hi]; exact h _ (List.getElem_mem hi)
theorem sm_mono {l : List Bl} {B C : Nat} (h : Sm l B) (hBC : B ≤ C) : Sm l C := fun p hp => Nat.le_trans (h p hp) hBC
theorem sm_append {l m : List Bl} {B : Nat} (h : Sm l B) (k : Sm m B) : Sm (l ++ m) B := fun p hp => by
  rcases List.mem_append.1 hp with h1 | h1
  · exact h p h1
  · exact k p h1
theorem owns_slice2 {w : World} {base : Nat} {e : TypeId} {v : Value} {n : Nat} {xs : List Value} (h : w.ownsRow base e 2 v n xs) : ∃ ao cap, v = .slice ao n cap := by
  rcases h.2 with ⟨rfl, rfl⟩ | ⟨g, cap, cur, rfl, _⟩
  · exact ⟨_, _, rfl⟩
  · exact ⟨_, _, rfl⟩
theorem owns_head2 {w : World} {base : Nat} {e : TypeId} {v : Value} {n : Nat} {xs : List Value} (h : w.ownsRow base e 2 v n xs) (hp : 0 < n) : ∃ g cap, v = .slice (some ⟨g, 0, none⟩) n cap ∧ base ≤ g ∧ g < w.heap.size := by
  rcases h.2 with ⟨_, h0⟩ | ⟨g, cap, cur, rfl, hg, hh, _⟩
  · omega
  · exact ⟨g, cap, rfl, hg, (Array.getElem?_eq_some_iff.1 hh).1⟩
set_option maxHeartbeats 2000000 in
set_option maxRecDepth 100000 in
theorem l7DrawAny_any (cb : Nat) (v : Value) (bs : List Int) (w : World) (hst : St w cb v bs) (hl : bs.length ≤ 4096) (hz : ∀ j, 0 ≤ bs.getD j 0 ∧ bs.getD j 0 ≤ 255) :
    Calls Try.prog 113 #[.pointer (some ⟨cb, 0, none⟩)] w fun e w' => ∃ (u : Value) (l : List Bl), e = .returned u ∧ l.length ≤ 8 ∧ Sm l 10 ∧ Far l ∧ w'.ownsRow w.heap.size 70 2 u l.length (blC l) ∧ St w' cb v bs ∧ w.grownBy w' (some cb) := by
  have hcb := st_lt hst
  have HZ := Lib.hid hz
  clear hz
  go_enter Try.func113, Try.ntmps113
  go_wp2_with fail
  refine (l7Draw_any cb v bs _ hst hl HZ.out).mono ?_
  rintro e w1 ⟨u, l, rfl, hl7, hsm, hfa, ho1, hst1, hg1⟩
  have HFA := Lib.hid hfa
  clear hfa
  clear hst
  go_wp2_with fail
  refine (once_any cb v bs 12 _ hst1 hl HZ.out (by omega)).mono ?_
  rintro e w2 ⟨bb, rfl, hst2, hg2⟩
  have ho2 := owns_far ho1 hg2 hcb
  have hgr2 := grown_trans hg1 hg2
  clear hst1 hg1 hg2 ho1
  cases bb with
  | false =>
    obtain ⟨ao, cap, rfl⟩ := owns_slice2 ho2
    go_wp2
    go_ret
    exact ⟨_, l, rfl, by omega, sm_mono hsm (by omega), fa_far HFA.out, ho2, hst2, hgr2⟩
  | true =>
    by_cases hp : 0 < l.length
    rotate_left
    · obtain ⟨ao, cap, rfl⟩ := owns_slice2 ho2
      go_wp2
      go_ret
      exact ⟨_, l, rfl, by omega, sm_mono hsm (by omega), fa_far HFA.out, ho2, hst2, hgr2⟩
    obtain ⟨g, cap, rfl, hgb, hgs⟩ := owns_head2 ho2 hp
    obtain ⟨n, hn⟩ : ∃ n, n = l.length := ⟨_, rfl⟩
    have HN : Hid (n = l.length) := hn
    rw [← hn] at hp hl7 ho2 ⊢
    clear hn
    go_wp2_with fail
    refine (below_any cb v bs n _ hst2 hl HZ.out (by omega)).mono ?_
    rintro e w3 ⟨r, rfl, hr0, hr1, _, hst3, hg3⟩
    have hr2 := hr1 (by omega)
    obtain ⟨r, rfl⟩ := Int.eq_ofNat_of_zero_le hr0
    have hrn : r < n := by omega
    have ho3 := owns_far ho2 hg3 hcb
    have hgr3 := grown_trans hgr2 hg3
    clear hst2 ho2 hgr2 hg3 hr1 hr0 hr2
    have hs3 := hgr3.size
    have hbl := st_below hst3 ((Below.refl (cb + 1) _).alloc (st_lt hst3) (.cells #[] 70))
    have hgs3 : g < w3.heap.size := by
      rcases ho3.2 with ⟨h, _⟩ | ⟨g', cap', cur, h, _, hh, _⟩
      · cases h
      · simp only [Value.slice.injEq, Option.some.injEq, Addr.mk.injEq, and_true, true_and] at h
        obtain ⟨rfl, _⟩ := h
        exact (Array.getElem?_eq_some_iff.1 hh).1
    go_wp2_with fail
    refine (below_any cb v bs 3 _ hst3 hl HZ.out (by omega)).mono ?_
    rintro e w4 ⟨q, rfl, hq0, hq1, _, hst4, hg4⟩
    have hq2 := hq1 (by omega)
    have ho4 := owns_far ho3 hg4 hcb
    have hgr4 := grown_trans hgr3 hg4
    have hs4 := hgr4.size
    have hgs4 : g < w4.heap.size := Nat.lt_of_lt_of_le hgs3 hg4.size
    clear hst3 ho3 hgr3 hg4 hq1 hbl
    have hrx : r < l.length := by rw [← HN.out]; exact hrn
    obtain ⟨e0, e1⟩ := blC_get l r hrx
    have hbl := blC_len l
    have f0 := ho4.cellAt (r * 2) (by omega)
    have f1 := ho4.cellAt (r * 2 + 1) (by omega)
    rw [e0] at f0
    rw [e1] at f1
    have z0 := ho4.frozenAt (r * 2)
    have z1 := ho4.frozenAt (r * 2 + 1)
    have HS0 : Hid (∀ x, (w4.setCell ⟨g, r * 2, none⟩ (.int .i64 x)).ownsRow w.heap.size 70 2 (.slice (some ⟨g, 0, none⟩) n cap) n (blC (l.set r (x, (l.getD r bl0).2)))) := fun x => by
      have h := (ho4.stored (r * 2) (.int .i64 x)).1
      rwa [blC_set0 l r x hrx] at h
    have HS1 : Hid (∀ x, (w4.setCell ⟨g, r * 2 + 1, none⟩ (.string x)).ownsRow w.heap.size 70 2 (.slice (some ⟨g, 0, none⟩) n cap) n (blC (l.set r ((l.getD r bl0).1, x)))) := fun x => by
      have h := (ho4.stored (r * 2 + 1) (.string x)).1
      rwa [blC_set1 l r x hrx] at h
    have HST : Hid (∀ o x, St (w4.setCell ⟨g, o, none⟩ x) cb v bs ∧ w.grownBy (w4.setCell ⟨g, o, none⟩ x) (some cb)) := fun o x => by
      have hgx := (ho4.stored o x).2
      exact ⟨st_below hst4 (below_own' hgx (st_lt hst4) (fun g' h => by cases h; exact hgb) hcb), gr_own hgr4 hgx (fun g' h => by cases h; exact hgb)⟩
    obtain ⟨x1, hx1⟩ : ∃ x1, x1 = (l.getD r bl0).1 := ⟨_, rfl⟩
    obtain ⟨x2, hx2⟩ : ∃ x2, x2 = (l.getD r bl0).2 := ⟨_, rfl⟩
    have hx9 := sm_get hsm hrx
    have hxf : Hid ((l.getD r bl0).1 = digest (l.getD r bl0).2 ∧ (l.getD r bl0).1 ≠ 422356391) := by
      show _ ∧ _
      rw [getD_at hrx]
      exact HFA.out _ (List.getElem_mem hrx)
    rw [← hx2] at f1 hx9 HS0 hxf
    rw [← hx1] at f0 HS1 hxf
    have HLN : ∀ x, (l.set r x).length = n := fun x => by rw [List.length_set]; exact HN.out.symm
    clear hx1 hx2 e0 e1 hbl
    by_cases hq : q = 0
    · subst hq
      go_wp2
      go_ret
      refine ⟨_, l.set r (_, x2), rfl, by rw [HLN]; omega, sm_set (sm_mono hsm (by omega)) (Nat.le_trans hx9 (by omega)), far_set (fa_far HFA.out) ?far, by rw [HLN]; exact HS0.out _, (HST.out _ _).1, (HST.out _ _).2⟩
      case far =>
        have h1 := hxf.out.1
        have h2 := digest_in x2
        have h3 : wrap64 (x1 + 1) = x1 + 1 := IntWalk.wrap64_in _ ⟨by omega, by omega⟩
        refine ⟨fun he => ?_, ?_⟩
        · simp only at he ⊢
          omega
        · show In64 (wrap64 (x1 + 1))
          rw [h3]
          exact ⟨by omega, by omega⟩
    by_cases hq' : q = 1
    · subst hq'
      go_wp2
      go_ret
      exact ⟨_, l.set r (x1, x2 ++ ⟨#[113]⟩), rfl, by rw [HLN]; omega, sm_set (sm_mono hsm (by omega)) (by rw [ByteArray.size_append]; have e : (⟨#[113]⟩ : ByteArray).size = 1 := rfl; omega), far_set (fa_far HFA.out) ⟨fun _ => hxf.out.2, by show In64 x1; rw [hxf.out.1]; exact in64_digest _⟩, by rw [HLN]; exact HS1.out _, (HST.out _ _).1, (HST.out _ _).2⟩
    obtain rfl : q = 2 := by omega
    have h0x : 0 < l.length := by rw [← HN.out]; exact hp
    obtain ⟨e0, e1⟩ := blC_get l 0 h0x
    have hbl := blC_len l
    have y0 := ho4.cellAt (0 * 2) (by omega)
    have y1 := ho4.cellAt (0 * 2 + 1) (by omega)
    rw [e0] at y0
    rw [e1] at y1
    have hx8 := sm_get hsm h0x
    have hx0 : Hid ((l.getD 0 bl0).1 = digest (l.getD 0 bl0).2 ∧ (l.getD 0 bl0).1 ≠ 422356391) := by
      show _ ∧ _
      rw [getD_at h0x]
      exact HFA.out _ (List.getElem_mem h0x)
    obtain ⟨z1, hz1⟩ : ∃ z1, z1 = (l.getD 0 bl0).1 := ⟨_, rfl⟩
    obtain ⟨z2, hz2⟩ : ∃ z2, z2 = (l.getD 0 bl0).2 := ⟨_, rfl⟩
    rw [← hz2] at y1 hx8 hx0
    rw [← hz1] at y0 hx0
    rw [Nat.zero_mul] at y0 y1
    have y1' : w4.cell? ⟨g, 1, none⟩ = some (.string z2) := by simpa using y1
    have hnl := HN.out
    have ho4l : w4.ownsRow w.heap.size 70 2 (.slice (some ⟨g, 0, none⟩) n cap) l.length (blC l) := by rw [← hnl]; exact ho4
    clear hz1 hz2 e0 e1 hbl f0 f1 z0 HS0 HS1 HST ho4 y1 hrx
    have hl7' : l.length ≤ 7 := by omega
    clear hnl
    go_wp2_with (at_builtin; refine wpList_append_blobs rfl _ _ rfl w.heap.size _ l [(z1, z2)] _ rfl rfl (ho4l.alloc _) (rdB_one w4 (z1, z2) 70) (by rw [List.length_singleton]; omega) (by rw [World.size_alloc]; omega) ?_)
    intro v5 w5 ho5 hg5
    have hg6 := grown_trans (World.grownBy_alloc w4 _ _) hg5
    have hst5 := st_below hst4 (below_own' hg6 (st_lt hst4) (fun g' h => by cases h; exact hgb) hcb)
    have hgr5 := gr_own hgr4 hg6 (fun g' h => by cases h; exact hgb)
    have ho6 : w5.ownsRow w.heap.size 70 2 v5 (l ++ [(z1, z2)]).length (blC (l ++ [(z1, z2)])) := by rw [List.length_append]; exact ho5
    have hl6 : (l ++ [(z1, z2)]).length ≤ 8 := by rw [List.length_append, List.length_singleton]; omega
    have hs6 : Sm (l ++ [(z1, z2)]) 10 := sm_append (sm_mono hsm (by omega)) (fun p hp => by rw [List.mem_singleton.1 hp]; exact Nat.le_trans hx8 (by omega))
    clear ho5 hg5 hg6 hst4 hgr4 ho4l y0 y1'
    go_wp2
    go_ret
    exact ⟨_, _, rfl, hl6, hs6, far_append (fa_far HFA.out) (fun p hp => by rw [List.mem_singleton.1 hp]; exact ⟨fun _ => hx0.out.2, by show In64 z1; rw [hx0.out.1]; exact in64_digest _⟩), ho6, hst5, hgr5⟩
theorem zerosB_bytes (n : Nat) : Bytes (List.replicate n (0 : Int)) := fun x hx => by
  rw [List.eq_of_mem_replicate hx]; omega
theorem zeros_made (r : Int) (hr0 : 0 ≤ r) (hr1 : r < 2) : ∃ (n : Nat) (M : Array Value) (z : ByteArray), n ≤ 2001 ∧ (2000 : Int) + r = (n : Int) ∧ IntKind.i64.wrap (n : Int) = (n : Int) ∧ (z.size ≤ 2001 ∧ (2000 < z.size → digest z = 422356391)) ∧
    (∀ W : World, (Instr.makeSlice 22 (.int .i64 (n : Int)) (.int .i64 (n : Int))).run Try.prog W = .ok (.slice (some ⟨W.heap.size, 0, none⟩) n n) (W.alloc (.cells M 5))) ∧
    ∀ W : World, (convert 22 9 (.slice (some ⟨W.heap.size, 0, none⟩) n n)).run Try.prog (W.alloc (.cells M 5)) = .ok (.string z) (W.alloc (.cells M 5)) := by
  obtain ⟨i0, hi, hz0, hz1, hz2⟩ := info_parts Try.infoB
  obtain ⟨n, hn⟩ : ∃ n : Nat, (n : Int) = 2000 + r := ⟨(2000 + r).toNat, by omega⟩
  have hmk : ∀ W : World, (Instr.makeSlice 22 (.int .i64 (n : Int)) (.int .i64 (n : Int))).run Try.prog W = .ok (.slice (some ⟨W.heap.size, 0, none⟩) n n) (W.alloc (.cells (madeCells (Value.int .u8 0).cells (((n : Nat) : Int).toNat * i0.size)) 5)) := fun W => by
    have h := run_make (P := Try.prog) W 22 5 i0 (.int .u8 0) Try.underlying22 hi hz0 .i64 .i64 (n : Int) (n : Int) (by omega) (by omega) (by rw [hz2]; omega) (by omega)
    simpa using h
  have hMl : (madeCells (Value.int .u8 0).cells (((n : Nat) : Int).toNat * i0.size)).toList = cellsByteS (List.replicate n 0) := by
    rw [hz1, cellsByteS, List.map_replicate, Int.toNat_natCast, Nat.mul_one]
    exact toList_madeCells_one (.int .u8 0) n
  refine ⟨n, _, asB (List.replicate n (0 : Int)), by omega, hn.symm, IntWalk.i64_in _ ⟨by omega, by omega⟩, ⟨by rw [asB_size, List.length_replicate]; omega, fun h => by
    rw [asB_size, List.length_replicate] at h
    obtain rfl : n = 2001 := by omega
    exact zeros_digest⟩, hmk, fun W => ?_⟩
  have h := str_of (W.alloc (.cells (madeCells (Value.int .u8 0).cells (((n : Nat) : Int).toNat * i0.size)) 5)) W.heap.size 0 n n (List.replicate n (0 : Int)) (zerosB_bytes n) (by rw [List.length_replicate]; omega) (fun j hj => by
    rw [Nat.zero_add, cell_of_row _ W.heap.size j _ _ (0, 0) (heap_alloc_new W _), ← Array.getElem?_toList, hMl]
    exact ints_get .u8 (List.replicate n 0) j (by simpa using hj))
  rw [List.take_of_length_le (by rw [List.length_replicate]; omega)] at h
  exact h
theorem rdB_drewN {w : World} {v : Value} {l : List Bl} (h : RdB w v l) (q : Nat) : RdB (w.drewN q) v l := rdB_below h (below_drewN (Below.refl _ _) _)
set_option maxHeartbeats 2000000 in
set_option maxRecDepth 100000 in
theorem drawPut_any (va : Value) (bs : List Int) (w : World) (ha : Rd w va (cellsByteS bs)) (hl : bs.length ≤ 4096) (hz : Bytes bs) :
    Calls Try.prog 47 #[va] w fun e w' => ∃ (u : Value) (l : List Bl) (s : ByteArray), e = .returned (.tuple #[u, .string s]) ∧ l.length ≤ 8 ∧ Sm l 10 ∧ (s.size ≤ 2001 ∧ (storeB l = true → 2000 < s.size → findB l (digest s) = none)) ∧ RdB w' u l ∧ Below w.heap.size w w' := by
  have HZ := Lib.hid (code_all hz)
  go_enter Try.func47, Try.ntmps47
  go_wp2_with fail
  refine (new_any va bs w ha hl HZ.out).mono ?_
  rintro e w1 ⟨rfl, hst1, hb1, hs1⟩
  go_wp2_with fail
  refine (l7DrawAny_any w.heap.size va bs w1 hst1 hl HZ.out).mono ?_
  rintro e w2 ⟨u, l, rfl, hl8, hsm, hfr, ho2, hst2, hg2⟩
  have HFR := Lib.hid hfr
  clear hfr
  have hb2 : Below w.heap.size w w2 := hb1.grown hg2 hb1.size (fun k hk => by cases hk; exact Nat.le_refl _)
  go_wp2_with fail
  refine (once_any w.heap.size va bs 14 w2 hst2 hl HZ.out (by omega)).mono ?_
  rintro e w3 ⟨o, rfl, hst3, hg3⟩
  have hb3 : Below w.heap.size w w3 := hb2.grown hg3 hb2.size (fun k hk => by cases hk; exact Nat.le_refl _)
  have ho3 := owns_far ho2 hg3 (by omega)
  have HST3 := Lib.hid hst3
  clear hst1 hst2 hst3 hg2 hg3 hb1 hb2 ho2 ha hz
  cases o with
  | true =>
    have HOD := Lib.hid ho3.drew
    have HSTD : Hid (St w3.drew w.heap.size va bs) := st_below HST3.out (Below.refl (w.heap.size + 1) w3).drew
    have HBD := Lib.hid hb3.drew
    have hs1' : w.heap.size < w1.heap.size := by omega
    clear ho3 hb3 HST3
    go_wp2
    go_region_law (first
      | (go_simp; go_at_call 78; refine (below_any w.heap.size va bs 2 _ HSTD.out hl HZ.out (by omega)).mono ?_; rintro e w4 ⟨r, rfl, hr0, hr1, _, _, hg4⟩; obtain ⟨n, M, z, hn1, hrn, hwn, hzs, hmk, hcv⟩ := zeros_made r hr0 (hr1 (by omega)); have hb4 := HBD.out.grown hg4 HBD.out.size (fun k hk => by cases hk; exact Nat.le_refl _); have HB5 := Lib.hid (hb4.alloc hb4.size (.cells M 5)); have HR5 := Lib.hid (rdB_owns ((owns_far HOD.out hg4 hs1').alloc (.cells M 5))); clear hb4 hg4))
    all_goals
      go_wp2
      go_ret2
      exact ⟨u, l, z, rfl, hl8, hsm, ⟨hzs.1, far_none HFR.out hzs.2⟩, HR5.out, HB5.out⟩
  | false =>
    have hs1' : w.heap.size < w1.heap.size := by omega
    by_cases hp : 0 < l.length
    rotate_left
    · obtain ⟨ao, cap, rfl⟩ := owns_slice2 ho3
      go_wp2_with fail
      refine (drawText2_any w.heap.size va bs w3 HST3.out hl HZ.out).mono ?_
      rintro e w6 ⟨tx, rfl, ht9, hst6, hg6⟩
      have hb6 : Below w.heap.size w w6 := hb3.grown hg6 hb3.size (fun k hk => by cases hk; exact Nat.le_refl _)
      have hr6 := rdB_owns (owns_far ho3 hg6 hs1')
      have HB6 := Lib.hid hb6
      have HR6 := Lib.hid hr6
      clear hst6 hg6 hb6 hr6
      go_wp2
      go_ret2
      exact ⟨_, l, tx, rfl, hl8, hsm, ⟨by omega, fun _ h => absurd h (by omega)⟩, HR6.out, HB6.out⟩
    obtain ⟨g, cap, rfl, hgb, hgs⟩ := owns_head2 ho3 hp
    go_wp2_with fail
    refine (once_any w.heap.size va bs 4 w3 HST3.out hl HZ.out (by omega)).mono ?_
    rintro e w4 ⟨o, rfl, hst4, hg4⟩
    have hb4 : Below w.heap.size w w4 := hb3.grown hg4 hb3.size (fun k hk => by cases hk; exact Nat.le_refl _)
    have ho4 := owns_far ho3 hg4 hs1'
    clear hb3 ho3 HST3 hg4
    cases o with
    | false =>
      go_wp2_with fail
      refine (drawText2_any w.heap.size va bs w4 hst4 hl HZ.out).mono ?_
      rintro e w6 ⟨tx, rfl, ht9, hst6, hg6⟩
      have hb6 : Below w.heap.size w w6 := hb4.grown hg6 hb4.size (fun k hk => by cases hk; exact Nat.le_refl _)
      have hr6 := rdB_owns (owns_far ho4 hg6 hs1')
      have HB6 := Lib.hid hb6
      have HR6 := Lib.hid hr6
      clear hst6 hg6 hb6 hr6
      go_wp2
      go_ret2
      exact ⟨_, l, tx, rfl, hl8, hsm, ⟨by omega, fun _ h => absurd h (by omega)⟩, HR6.out, HB6.out⟩
    | true =>
      obtain ⟨e0, e1⟩ := blC_get l 0 hp
      have hbl := blC_len l
      have f1 := ho4.cellAt (0 * 2 + 1) (by omega)
      have f0 := ho4.cellAt (0 * 2) (by omega)
      rw [e1] at f1
      rw [e0] at f0
      have hx8 := sm_get hsm hp
      obtain ⟨z1, hz1⟩ : ∃ z1, z1 = (l.getD 0 bl0).1 := ⟨_, rfl⟩
      obtain ⟨z2, hz2⟩ : ∃ z2, z2 = (l.getD 0 bl0).2 := ⟨_, rfl⟩
      rw [← hz2] at f1 hx8
      rw [← hz1] at f0
      rw [Nat.zero_mul] at f0 f1
      have f1' : w4.cell? ⟨g, 1, none⟩ = some (.string z2) := by simpa using f1
      have HR4 := Lib.hid (rdB_owns ho4)
      clear hz1 hz2 e0 e1 hbl f1 ho4 hst4
      go_wp2
      go_quiet (fail)
      go_wp2
      go_ret2
      exact ⟨_, l, z2, rfl, hl8, hsm, ⟨by omega, fun _ h => absurd h (by omega)⟩, rdB_drewN HR4.out _, below_drewN hb4 _⟩
theorem own_cells {w : World} {base : Nat} {e : TypeId} {g cap n : Nat} {l : List Bl} (h : w.ownsRow base e 2 (.slice (some ⟨g, 0, none⟩) n cap) n (blC l)) (hn : n = l.length) {r : Nat} (hr : r < n) : w.cell? ⟨g, r * 2, none⟩ = some (.int .i64 (l.getD r bl0).1) ∧ w.cell? ⟨g, r * 2 + 1, none⟩ = some (.string (l.getD r bl0).2) := by
  subst hn
  obtain ⟨e0, e1⟩ := blC_get l r hr
  have hbl := blC_len l
  have f0 := h.cellAt (r * 2) (by omega)
  have f1 := h.cellAt (r * 2 + 1) (by omega)
  rw [e0] at f0
  rw [e1] at f1
  exact ⟨f0, f1⟩
set_option maxHeartbeats 2000000 in
set_option maxRecDepth 100000 in
theorem drawGet_any (va : Value) (bs : List Int) (w : World) (ha : Rd w va (cellsByteS bs)) (hl : bs.length ≤ 4096) (hz : Bytes bs) :
    Calls Try.prog 49 #[va] w fun e w' => ∃ (u : Value) (l : List Bl) (d : Int), e = .returned (.tuple #[u, .int .i64 d]) ∧ l.length ≤ 8 ∧ Sm l 10 ∧ RdB w' u l ∧ Below w.heap.size w w' := by
  have HZ := Lib.hid (code_all hz)
  go_enter Try.func49, Try.ntmps49
  go_wp2_with fail
  refine (new_any va bs w ha hl HZ.out).mono ?_
  rintro e w1 ⟨rfl, hst1, hb1, hs1⟩
  go_wp2_with fail
  refine (l7DrawAny_any w.heap.size va bs w1 hst1 hl HZ.out).mono ?_
  rintro e w2 ⟨u, l, rfl, hl8, hsm, _, ho2, hst2, hg2⟩
  have hb2 : Below w.heap.size w w2 := hb1.grown hg2 hb1.size (fun k hk => by cases hk; exact Nat.le_refl _)
  have hs1' : w.heap.size < w1.heap.size := by omega
  clear hst1 hg2 hb1 ha hz
  by_cases hp : 0 < l.length
  rotate_left
  · obtain ⟨ao, cap, rfl⟩ := owns_slice2 ho2
    go_wp2_with fail
    refine (drawText2_any w.heap.size va bs w2 hst2 hl HZ.out).mono ?_
    rintro e w6 ⟨tx, rfl, ht9, hst6, hg6⟩
    have hb6 : Below w.heap.size w w6 := hb2.grown hg6 hb2.size (fun k hk => by cases hk; exact Nat.le_refl _)
    have hr6 := rdB_owns (owns_far ho2 hg6 hs1')
    have HB6 := Lib.hid hb6
    have HR6 := Lib.hid hr6
    clear hst6 hg6 hb6 hr6
    go_wp2_with fail
    refine (specDigest_any tx _ (by omega)).mono ?_
    rintro e w7 ⟨rfl, rfl⟩
    go_wp2
    go_ret2
    exact ⟨_, l, _, rfl, hl8, hsm, HR6.out, HB6.out⟩
  obtain ⟨g, cap, rfl, hgb, hgs⟩ := owns_head2 ho2 hp
  obtain ⟨n, hn⟩ : ∃ n, n = l.length := ⟨_, rfl⟩
  have HN : Hid (n = l.length) := hn
  rw [← hn] at hp hl8 ho2 ⊢
  clear hn
  go_wp2_with fail
  refine (once_any w.heap.size va bs 4 w2 hst2 hl HZ.out (by omega)).mono ?_
  rintro e w4 ⟨o, rfl, hst4, hg4⟩
  have hb4 : Below w.heap.size w w4 := hb2.grown hg4 hb2.size (fun k hk => by cases hk; exact Nat.le_refl _)
  have ho4 := owns_far ho2 hg4 hs1'
  clear hb2 ho2 hst2 hg4
  cases o with
  | true =>
    go_wp2_with fail
    refine (drawText2_any w.heap.size va bs w4 hst4 hl HZ.out).mono ?_
    rintro e w6 ⟨tx, rfl, ht9, hst6, hg6⟩
    have hb6 : Below w.heap.size w w6 := hb4.grown hg6 hb4.size (fun k hk => by cases hk; exact Nat.le_refl _)
    have hr6 := rdB_owns (l := l) (by rw [← HN.out]; exact owns_far ho4 hg6 hs1')
    have HB6 := Lib.hid hb6
    have HR6 := Lib.hid hr6
    clear hst6 hg6 hb6 hr6
    go_wp2_with fail
    refine (specDigest_any tx _ (by omega)).mono ?_
    rintro e w7 ⟨rfl, rfl⟩
    go_wp2
    go_ret2
    exact ⟨_, l, _, rfl, by rw [← HN.out]; exact hl8, hsm, HR6.out, HB6.out⟩
  | false =>
    have HSTD : Hid (St w4.drew w.heap.size va bs) := st_below hst4 (Below.refl (w.heap.size + 1) w4).drew
    have HOD := Lib.hid ho4.drew
    have HBD := Lib.hid hb4.drew
    clear hst4 ho4 hb4
    go_wp2
    go_region_law (first
      | (go_simp; go_at_call 78; refine (below_any w.heap.size va bs n _ HSTD.out hl HZ.out (by omega)).mono ?_; rintro e w5 ⟨r, rfl, hr0, hr1, _, _, hg5⟩; have hr2 := hr1 (by omega); obtain ⟨r, rfl⟩ := Int.eq_ofNat_of_zero_le hr0; have hrn : r < n := (by omega); have hb5 := HBD.out.grown hg5 HBD.out.size (fun k hk => by cases hk; exact Nat.le_refl _); have HB5 := Lib.hid hb5; have ho5 := owns_far HOD.out hg5 hs1'; have HO5 := Lib.hid ho5; obtain ⟨f0, f1⟩ := own_cells ho5 HN.out hrn; clear hb5 ho5 hg5 hr1 hr0 hr2))
    all_goals
      go_wp2
      go_ret2
      exact ⟨_, l, _, rfl, by rw [← HN.out]; exact hl8, hsm, rdB_owns (l := l) (by rw [← HN.out]; exact HO5.out), HB5.out⟩
set_option maxHeartbeats 2000000 in
set_option maxRecDepth 100000 in
theorem l7DrawDigests_any (cb : Nat) (v : Value) (bs : List Int) (u : Value) (l : List Bl) (B : Nat) (w : World) (hst : St w cb v bs) (hl : bs.length ≤ 4096) (hz : ∀ j, 0 ≤ bs.getD j 0 ∧ bs.getD j 0 ≤ 255) (hu : w.ownsRow B 70 2 u l.length (blC l)) (hB : cb < B) (hl8 : l.length ≤ 16) (hin : ∀ p ∈ l, In64 p.1) :
    Calls Try.prog 121 #[.pointer (some ⟨cb, 0, none⟩), u] w fun e w' => ∃ (v' : Value) (ds : List Int), e = .returned v' ∧ ds.length ≤ 5 ∧ (∀ d ∈ ds, In64 d) ∧ w'.ownsRow w.heap.size 2 1 v' ds.length (cellsInt64S ds) ∧ St w' cb v bs ∧ w.grownBy w' (some cb) := by
  obtain ⟨i0, hi, hz0, hz1, hz2⟩ := info_parts Try.info64
  have hcb := st_lt hst
  have HZ := Lib.hid hz
  have HU := Lib.hid hu
  have ho0 : (w.alloc (.cells #[] 2)).ownsRow w.heap.size 2 1 (.slice (some ⟨w.heap.size, 0, none⟩) 0 0) 0 (cellsInt64S []) := World.ownsRow_lit (base := w.heap.size) (e := 2) (size := 1) w #[] 0 (Nat.le_refl _) (Nat.zero_le _) rfl
  have hst0 : St (w.alloc (.cells #[] 2)) cb v bs := st_below hst ((Below.refl _ _).alloc (by omega) _)
  have hg0 : w.grownBy (w.alloc (.cells #[] 2)) (some cb) := World.grownBy_alloc w _ _
  obtain ⟨ao, cap, rfl⟩ := owns_slice2 hu
  obtain ⟨n, hn⟩ : ∃ n, n = l.length := ⟨_, rfl⟩
  have HN : Hid (n = l.length) := hn
  rw [← hn] at HU hl8 ⊢
  have HIN : Hid (∀ r, r < n → In64 (l.getD r bl0).1) := fun r hr => by
    have hrl : r < l.length := by omega
    rw [getD_at hrl]
    exact hin _ (List.getElem_mem hrl)
  clear hst hz hu hn hin
  go_enter Try.func121, Try.ntmps121
  go_wp2_with fail
  refine (below_any cb v bs 5 _ hst0 hl HZ.out (by omega)).mono ?_
  rintro e w2 ⟨N, rfl, hn0, hn1, _, hst2, hg2⟩
  have hn2 := hn1 (by omega)
  have ho2 := owns_far ho0 hg2 hcb
  have hgr2 := grown_trans hg0 hg2
  clear ho0 hg0 hg2 hst0 hn1
  go_wp2
  go_loopw [5, 6] (fun b q wr => ∃ (m : Int) (acc : List Int), q = .int .i64 m ∧ 0 ≤ m ∧ (acc.length : Int) + m ≤ 5 ∧ Hid (∀ d ∈ acc, In64 d) ∧ wr.ownsRow w.heap.size 2 1 b acc.length (cellsInt64S acc) ∧ St wr cb v bs ∧ w.grownBy wr (some cb)) (fun _ q _ => (intOf q).toNat)
  case atStart => exact ⟨N, [], rfl, hn0, by simp; omega, (fun d hd => absurd hd List.not_mem_nil), ho2, hst2, hgr2⟩
  case round =>
    obtain ⟨m, acc, rfl, hm0, hm1, hacc, ho, hst3, hgr⟩ := hrel
    clear ho2 hst2 hgr2
    by_cases hlt : 0 < m
    · by_cases hp : 0 < n
      rotate_left
      · go_wp2_with fail
        refine (drawText2_any cb v bs _ hst3 hl HZ.out).mono ?_
        rintro e w5 ⟨tx, rfl, ht9, hst5, hg5⟩
        have ho5 := owns_far ho hg5 hcb
        have hgr5 := grown_trans hgr hg5
        have hs5 := hgr5.size
        clear hst3 ho hgr hg5
        go_wp2_with fail
        refine (specDigest_any tx _ (by omega)).mono ?_
        rintro e w8 ⟨rfl, rfl⟩
        have hx64 := in64_digest tx
        generalize digest tx = x at hx64 ⊢
        have HAC : Hid (∀ d ∈ acc ++ [x], In64 d) := fun d hd => by
          rcases List.mem_append.1 hd with h | h
          · exact hacc.out d h
          · rw [List.mem_singleton.1 h]; exact hx64
        clear hx64
        go_wp2_with (at_builtin; refine wpList_append_own _ rfl _ _ 28 rfl w.heap.size 2 i0 (.int .i64 0) 1 8 Try.underlying28 hi hz0 hz1 hz2 rfl (by decide) _ _ _ rfl (ho5.alloc _) ⟨w8.heap.size, 0, none⟩ 1 1 [.int .i64 x] rfl rfl (one_cell w8 .i64 _ _) (ints_oneCell .i64 [x]) (by unfold maxLen; omega) (by omega) (by rw [World.size_alloc]; omega) ?_)
        intro v6 w6 ho6 hg6 _
        have hg7 := grown_trans (World.grownBy_alloc w8 _ _) hg6
        have hgr6 := gr_own hgr5 hg7 (fun g' h => (ho5.lt g' h).1)
        have hst6 := st_below hst5 (below_own' hg7 (st_lt hst5) (fun g' h => (ho5.lt g' h).1) hcb)
        have ho7 : w6.ownsRow w.heap.size 2 1 v6 (acc ++ [x]).length (cellsInt64S (acc ++ [x])) := by simpa using ho6
        have hl7 : ((acc ++ [x]).length : Int) + (m - 1) ≤ 5 := by rw [List.length_append, List.length_singleton]; omega
        clear ho6 hg6 hg7 ho5 hgr5 hst5
        go_wp2
        go_roundw
        case rel => exact ⟨m - 1, acc ++ [x], by go_num, by omega, hl7, HAC, ho7, hst6, hgr6⟩
        case measure => simp [intOf]; omega
      go_wp2_with fail
      refine (once_any cb v bs 3 _ hst3 hl HZ.out (by omega)).mono ?_
      rintro e w4 ⟨o, rfl, hst4, hg4⟩
      have ho4 := owns_far ho hg4 hcb
      have hgr4 := grown_trans hgr hg4
      clear hst3 ho hgr hg4
      cases o with
      | true =>
        go_wp2_with fail
        refine (drawText2_any cb v bs _ hst4 hl HZ.out).mono ?_
        rintro e w5 ⟨tx, rfl, ht9, hst5, hg5⟩
        have ho5 := owns_far ho4 hg5 hcb
        have hgr5 := grown_trans hgr4 hg5
        have hs5 := hgr5.size
        clear hst4 ho4 hgr4 hg5
        go_wp2_with fail
        refine (specDigest_any tx _ (by omega)).mono ?_
        rintro e w8 ⟨rfl, rfl⟩
        have hx64 := in64_digest tx
        generalize digest tx = x at hx64 ⊢
        have HAC : Hid (∀ d ∈ acc ++ [x], In64 d) := fun d hd => by
          rcases List.mem_append.1 hd with h | h
          · exact hacc.out d h
          · rw [List.mem_singleton.1 h]; exact hx64
        clear hx64
        go_wp2_with (at_builtin; refine wpList_append_own _ rfl _ _ 28 rfl w.heap.size 2 i0 (.int .i64 0) 1 8 Try.underlying28 hi hz0 hz1 hz2 rfl (by decide) _ _ _ rfl (ho5.alloc _) ⟨w8.heap.size, 0, none⟩ 1 1 [.int .i64 x] rfl rfl (one_cell w8 .i64 _ _) (ints_oneCell .i64 [x]) (by unfold maxLen; omega) (by omega) (by rw [World.size_alloc]; omega) ?_)
        intro v6 w6 ho6 hg6 _
        have hg7 := grown_trans (World.grownBy_alloc w8 _ _) hg6
        have hgr6 := gr_own hgr5 hg7 (fun g' h => (ho5.lt g' h).1)
        have hst6 := st_below hst5 (below_own' hg7 (st_lt hst5) (fun g' h => (ho5.lt g' h).1) hcb)
        have ho7 : w6.ownsRow w.heap.size 2 1 v6 (acc ++ [x]).length (cellsInt64S (acc ++ [x])) := by simpa using ho6
        have hl7 : ((acc ++ [x]).length : Int) + (m - 1) ≤ 5 := by rw [List.length_append, List.length_singleton]; omega
        clear ho6 hg6 hg7 ho5 hgr5 hst5
        go_wp2
        go_roundw
        case rel => exact ⟨m - 1, acc ++ [x], by go_num, by omega, hl7, HAC, ho7, hst6, hgr6⟩
        case measure => simp [intOf]; omega
      | false =>
        go_wp2_with fail
        refine (below_any cb v bs n _ hst4 hl HZ.out (by omega)).mono ?_
        rintro e w5 ⟨r, rfl, hr0, hr1, _, hst5, hg5⟩
        have ho5 := owns_far ho4 hg5 hcb
        have hgr5 := grown_trans hgr4 hg5
        have hs5 := hgr5.size
        have hr2 := hr1 (by omega)
        obtain ⟨r, rfl⟩ := Int.eq_ofNat_of_zero_le hr0
        have hrn : r < n := by omega
        have hu5 := owns_far HU.out hgr5 hB
        obtain ⟨g, cap', hv, _, _⟩ := owns_head2 hu5 hp
        simp only [Value.slice.injEq] at hv
        obtain ⟨rfl, _, rfl⟩ := hv
        obtain ⟨f0, f1⟩ := own_cells hu5 HN.out hrn
        have hx64 := HIN.out r hrn
        obtain ⟨x, hx⟩ : ∃ x, x = (l.getD r bl0).1 := ⟨_, rfl⟩
        obtain ⟨y, hy⟩ : ∃ y, y = (l.getD r bl0).2 := ⟨_, rfl⟩
        rw [← hx] at f0 hx64
        have HAC : Hid (∀ d ∈ acc ++ [x], In64 d) := fun d hd => by
          rcases List.mem_append.1 hd with h | h
          · exact hacc.out d h
          · rw [List.mem_singleton.1 h]; exact hx64
        clear hx64
        rw [← hy] at f1
        clear hst4 ho4 hgr4 hg5 hr1 hr0 hr2 hu5 hx hy
        go_wp2_with (at_builtin; refine wpList_append_own _ rfl _ _ 28 rfl w.heap.size 2 i0 (.int .i64 0) 1 8 Try.underlying28 hi hz0 hz1 hz2 rfl (by decide) _ _ _ rfl (ho5.alloc _) ⟨w5.heap.size, 0, none⟩ 1 1 [.int .i64 x] rfl rfl (one_cell w5 .i64 _ _) (ints_oneCell .i64 [x]) (by unfold maxLen; omega) (by omega) (by rw [World.size_alloc]; omega) ?_)
        intro v6 w6 ho6 hg6 _
        have hg7 := grown_trans (World.grownBy_alloc w5 _ _) hg6
        have hgr6 := gr_own hgr5 hg7 (fun g' h => (ho5.lt g' h).1)
        have hst6 := st_below hst5 (below_own' hg7 (st_lt hst5) (fun g' h => (ho5.lt g' h).1) hcb)
        have ho7 : w6.ownsRow w.heap.size 2 1 v6 (acc ++ [x]).length (cellsInt64S (acc ++ [x])) := by simpa using ho6
        have hl7 : ((acc ++ [x]).length : Int) + (m - 1) ≤ 5 := by rw [List.length_append, List.length_singleton]; omega
        clear ho6 hg6 hg7 ho5 hgr5 hst5
        go_wp2
        go_roundw
        case rel => exact ⟨m - 1, acc ++ [x], by go_num, by omega, hl7, HAC, ho7, hst6, hgr6⟩
        case measure => simp [intOf]; omega
    · go_wp2
      go_ret
      first
        | exact ⟨_, acc, rfl, by omega, hacc.out, ho, hst3, hgr⟩
        | exact ⟨_, rfl, acc, by omega, hacc.out, ho, hst3, hgr⟩
set_option maxHeartbeats 2000000 in
set_option maxRecDepth 100000 in
theorem drawDrop_any (va : Value) (bs : List Int) (w : World) (ha : Rd w va (cellsByteS bs)) (hl : bs.length ≤ 4096) (hz : Bytes bs) :
    Calls Try.prog 51 #[va] w fun e w' => ∃ (u : Value) (l : List Bl) (v : Value) (ds : List Int), e = .returned (.tuple #[u, v]) ∧ l.length ≤ 8 ∧ Sm l 10 ∧ RdB w' u l ∧ ds.length ≤ 5 ∧ (∀ d ∈ ds, In64 d) ∧ Rd w' v (cellsInt64S ds) ∧ Below w.heap.size w w' := by
  have HZ := Lib.hid (code_all hz)
  go_enter Try.func51, Try.ntmps51
  go_wp2_with fail
  refine (new_any va bs w ha hl HZ.out).mono ?_
  rintro e w1 ⟨rfl, hst1, hb1, hs1⟩
  go_wp2_with fail
  refine (l7DrawAny_any w.heap.size va bs w1 hst1 hl HZ.out).mono ?_
  rintro e w2 ⟨u, l, rfl, hl8, hsm, hfr, ho2, hst2, hg2⟩
  have hb2 : Below w.heap.size w w2 := hb1.grown hg2 hb1.size (fun k hk => by cases hk; exact Nat.le_refl _)
  have hs1' : w.heap.size < w1.heap.size := by omega
  clear hst1 hb1 ha hz
  go_wp2_with fail
  refine (l7DrawDigests_any w.heap.size va bs u l w1.heap.size w2 hst2 hl HZ.out ho2 hs1' (by omega) (fun p hp => (hfr p hp).2)).mono ?_
  rintro e w3 ⟨v, ds, rfl, hd5, hd64, ho3, _, hg3⟩
  have HD6 := Lib.hid hd64
  clear hd64 hfr
  have HB := Lib.hid (hb2.grown hg3 hb2.size (fun k hk => by cases hk; exact Nat.le_refl _))
  have HR := Lib.hid (rdB_owns (owns_far ho2 hg3 hs1'))
  have HV := Lib.hid (rd_owns ho3)
  clear ho2 hst2 hg2 hb2 ho3 hg3
  go_wp2
  go_ret2
  exact ⟨_, l, _, ds, rfl, hl8, hsm, HR.out, hd5, HD6.out, HV.out, HB.out⟩
end Go.Proofs.Ytfoncmeplofedab
