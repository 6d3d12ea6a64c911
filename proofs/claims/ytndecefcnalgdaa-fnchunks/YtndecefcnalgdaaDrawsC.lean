/- CONTRACTS: what is drawn for cutting: spec.l1DrawTexts, l1From, l1DrawLong, l4DrawRule, DrawNext, DrawCuts, DrawChunks, DrawGlued: whatever the code, some texts, some rule. -/
import Derived.Test.YtndecefcnalgdaaDraw
import Derived.Test.YtndecefcnalgdaaRule
import Derived.Deep.RegionHeld
import Derived.Lib.Builder
namespace Go.Proofs.Ytndecefcnalgdaa
open Go.RowKit

theorem Exit.then_normal (K : Act → World → Prop) (Q : Exit → Act → World → Prop) (a : Act) (w : World) : Exit.then K Q .normal a w = K a w := rfl
theorem codeR {bs : List Int} (h : Bytes bs) : ∀ j, 0 ≤ bs.getD j 0 ∧ bs.getD j 0 ≤ 255 := bytes_get h
theorem zeros_bytes (n : Nat) : Bytes (List.replicate n (0 : Int)) := fun x hx => by
  rw [(List.mem_replicate.1 hx).2]; omega
theorem all_snoc {acc : List ByteArray} {x : ByteArray} {B : Nat} (h : ∀ s ∈ acc, s.size ≤ B) (hx : x.size ≤ B) : ∀ s ∈ acc ++ [x], s.size ≤ B := fun s hs => by
  rcases List.mem_append.1 hs with h1 | h1
  · exact h s h1
  · rw [List.mem_singleton.1 h1]; exact hx
theorem below_of_own {w2 w3 : World} {row : Option Nat} {cb B : Nat} (hg : w2.grownBy w3 row) (hcb : cb < w2.heap.size) (hr : ∀ g, row = some g → B ≤ g) (hB : cb < B) : Below (cb + 1) w2 w3 :=
  ⟨hg.os, hg.tape, hg.output, hg.size, fun k hk => hg.block k (by omega) (fun e => by have := hr k e.symm; omega)⟩
theorem one_str (w : World) (s : ByteArray) (t : TypeId) : ∀ j u, ([Value.string s] : List Value)[j]? = some u → (w.alloc (.cells #[Value.string s] t)).cell? ((⟨w.heap.size, 0, none⟩ : Addr).add j) = some u := by
  intro j u hj
  match j, hj with
  | 0, hj => simp at hj; subst hj; simp [Addr.add]

set_option maxHeartbeats 2000000 in
set_option maxRecDepth 100000 in
theorem drawTexts2_any (cb : Nat) (v : Value) (bs : List Int) (w : World) (hst : St w cb v bs) (hl : bs.length ≤ 4096) (hz : ∀ j, 0 ≤ bs.getD j 0 ∧ bs.getD j 0 ≤ 255) :
    Calls Try.prog 73 #[.pointer (some ⟨cb, 0, none⟩)] w fun e w' => ∃ (v' : Value) (xs : List ByteArray), e = .returned v' ∧ xs.length ≤ 300 ∧ (∀ s ∈ xs, s.size ≤ 3000) ∧ w'.ownsRow w.heap.size 9 1 v' xs.length (cellsS xs) ∧ St w' cb v bs ∧ w.grownBy w' (some cb) := by
  obtain ⟨i0, hi, hz0, hz1, hz2⟩ := info_parts Try.infoS
  obtain ⟨j0, hj, hy0, hy1, hy2⟩ := info_parts Try.infoB
  have hcb := st_lt hst
  have hst0 : St (w.alloc (.cells #[] 9)) cb v bs := st_below hst ((Below.refl _ _).alloc (by omega) _)
  have HZ : Hid (∀ j, 0 ≤ bs.getD j 0 ∧ bs.getD j 0 ≤ 255) := hz
  clear hz
  go_enter Try.func73, Try.ntmps73
  go_wp2_with fail
  refine (below_any cb v bs 5 _ hst0 hl HZ.out (by omega)).mono ?_
  rintro e w1 ⟨n, rfl, hn0, hn1, _, hst1, hg1⟩
  have hg1w : w.grownBy w1 (some cb) := grown_trans (World.grownBy_alloc w _ _) hg1
  have hmade : w1.ownsRow w.heap.size 9 1 (.slice (some ⟨w.heap.size, 0, none⟩) 0 0) 0 (cellsS []) := owns_grown (World.ownsRow_lit w #[] 0 (Nat.le_refl _) (Nat.zero_le _) rfl) hg1 (fun k hk h => by cases hk; simp [Value.ownBlock] at h; omega)
  have hnm : n ≤ 5 := by have := hn1 (by omega); omega
  have HST1 : Hid (St w1 cb v bs) := hst1
  clear hst hst0 hst1 hn1 hg1
  go_wp2
  go_loopw [3, 4] (fun b q wr => ∃ (m : Int) (acc : List ByteArray), q = .int .i64 m ∧ 0 ≤ m ∧ (acc.length : Int) + m ≤ 5 ∧ Hid (∀ s ∈ acc, s.size ≤ 3000) ∧ wr.ownsRow w.heap.size 9 1 b acc.length (cellsS acc) ∧ Hid (St wr cb v bs) ∧ w.grownBy wr (some cb)) (fun _ q _ => (intOf q).toNat)
  case atStart => exact ⟨n, [], rfl, hn0, by simp; omega, fun s hs => (by cases hs), hmade, HST1, hg1w⟩
  case round =>
    obtain ⟨m, acc, rfl, hm0, hm1, hab, ho, hst2, hg2⟩ := hrel
    have hs := hg2.size
    clear hmade hg1w
    by_cases hlt : 0 < m
    · go_wp2_with fail
      refine (drawText_any cb v bs 5 _ hst2.out hl HZ.out (by omega) (by omega)).mono ?_
      rintro e w2 ⟨r, rfl, hr0, hst3, hg3⟩
      have ho2 := owns_grown ho hg3 (fun k hk h => by cases hk; have := (ho.lt cb h).1; omega)
      have hg3w := grown_trans hg2 hg3
      have hs3 := hg3w.size
      have HST3 : Hid (St w2 cb v bs) := hst3
      clear hst3 ho hg2 hg3 hst2
      go_wp2_with (at_builtin; refine wpList_append_own _ rfl _ _ 37 rfl w.heap.size 9 i0 (.string ⟨#[]⟩) 1 16 Try.underlying37 hi hz0 hz1 hz2 rfl (by decide) _ _ _ rfl (ho2.alloc _) ⟨w2.heap.size, 0, none⟩ 1 1 [.string r] rfl rfl ?c1 ?c2 ?c3 ?c4 ?c5 ?_)
      case c1 => exact one_str w2 r _
      case c2 => intro u hu; rw [List.mem_singleton.1 hu]; rfl
      case c3 => unfold maxLen; omega
      case c4 => omega
      case c5 => simp; omega
      intro v3 w3 ho3 hg4 _
      have hg5 := grown_trans (World.grownBy_alloc w2 _ _) hg4
      have hg6 : w.grownBy w3 (some cb) := grown_own hg3w hg5 (fun g h => (ho2.lt g h).1)
      have HST4 : Hid (St w3 cb v bs) := st_below HST3.out (below_of_own hg5 (st_lt HST3.out) (fun g h => (ho2.lt g h).1) hcb)
      have ho4 : w3.ownsRow w.heap.size 9 1 v3 (acc ++ [r]).length (cellsS (acc ++ [r])) := by simpa using ho3
      clear ho3 hg4 hg5 ho2 hg3w
      go_wp2
      go_roundw
      case rel => exact ⟨m - 1, acc ++ [r], by go_num, by omega, by rw [List.length_append, List.length_singleton]; omega, all_snoc hab.out (by omega), ho4, HST4, hg6⟩
      case measure => simp [intOf]; omega
    · go_wp2_with fail
      refine (once_any cb v bs 24 _ hst2.out hl HZ.out (by omega)).mono ?_
      rintro e w2 ⟨b, rfl, hst3, hg3⟩
      have ho2 := owns_grown ho hg3 (fun k hk h => by cases hk; have := (ho.lt cb h).1; omega)
      have hg3w := grown_trans hg2 hg3
      have hs3 := hg3w.size
      have HST3 : Hid (St w2 cb v bs) := hst3
      have hlen : acc.length ≤ 300 := by omega
      clear ho hg2 hg3 hst2 hst3
      cases b with
      | false =>
        go_wp2
        go_ret
        exact ⟨_, acc, rfl, hlen, hab.out, ho2, HST3.out, hg3w⟩
      | true =>
        go_wp2_with fail
        refine (below_any cb v bs 2 _ HST3.out hl HZ.out (by omega)).mono ?_
        rintro e w4 ⟨r, rfl, hr0, hr1, _, hst4, hg4⟩
        have hr2 := hr1 (by omega)
        have ho4 := owns_grown ho2 hg4 (fun k hk h => by cases hk; have := (ho2.lt cb h).1; omega)
        have hg4w := grown_trans hg3w hg4
        have hs4 := hg4w.size
        have HST4 : Hid (St w4 cb v bs) := hst4
        clear ho2 hg3w hg4 hst4 HST3 hr1
        rcases (show r = 0 ∨ r = 1 by omega) with rfl | rfl
        · go_wp2_with fail
          refine (below_any cb v bs 2 _ HST4.out hl HZ.out (by omega)).mono ?_
          rintro e w6 ⟨q, rfl, hq0, hq1, _, hst6, hg6⟩
          have hq2 := hq1 (by omega)
          obtain ⟨q, rfl⟩ := Int.eq_ofNat_of_zero_le hq0
          have hg6w := grown_trans hg4w hg6
          have hs6 := hg6w.size
          have HST6 : Hid (St w6 cb v bs) := hst6
          have hql : q ≤ 1 := by omega
          clear hst6 hg6 hq1 ho4 hg4w HST4
          go_wp2_with (at_make; refine wpList_make_full _ rfl _ _ 37 rfl w.heap.size 9 i0 (.string ⟨#[]⟩) 1 Try.underlying37 hi hz0 hz1 _ _ _ _ (200 + q) rfl rfl (by omega) (by omega) (by rw [hz2]; omega) (by unfold maxLen; omega) ?e1 ?_)
          case e1 => exact hs6
          intro w7 ho7 hg7
          have hg9 : w.grownBy w7 (some cb) := grown_own hg6w hg7 (fun g h => by cases h)
          have HST7 : Hid (St w7 cb v bs) := st_below HST6.out (below_of_own (B := w.heap.size) hg7 (st_lt HST6.out) (fun g h => by cases h) hcb)
          have ho8 : w7.ownsRow w.heap.size 9 1 (.slice (some ⟨w6.heap.size, 0, none⟩) (200 + q) (200 + q)) (List.replicate (200 + q) (⟨#[]⟩ : ByteArray)).length (cellsS (List.replicate (200 + q) (⟨#[]⟩ : ByteArray))) := by
            rw [List.length_replicate]
            have h := ho7
            rw [toList_madeCells_one] at h
            simpa using h
          have hlen8 : (List.replicate (200 + q) (⟨#[]⟩ : ByteArray)).length ≤ 300 := by rw [List.length_replicate]; omega
          clear ho7 hg7 hg6w
          go_wp2
          go_ret
          exact ⟨_, _, rfl, hlen8, fun s hs => by rw [(List.mem_replicate.1 hs).2]; exact Nat.zero_le _, ho8, HST7.out, hg9⟩
        · go_wp2_with fail
          refine (below_any cb v bs 2 _ HST4.out hl HZ.out (by omega)).mono ?_
          rintro e w6 ⟨q, rfl, hq0, hq1, _, hst6, hg6⟩
          have hq2 := hq1 (by omega)
          obtain ⟨q, rfl⟩ := Int.eq_ofNat_of_zero_le hq0
          have ho6 := owns_grown ho4 hg6 (fun k hk h => by cases hk; have := (ho4.lt cb h).1; omega)
          have hg6w := grown_trans hg4w hg6
          have hs6 := hg6w.size
          have HST6 : Hid (St w6 cb v bs) := hst6
          have hql : q ≤ 1 := by omega
          clear hst6 hg6 hq1 ho4 hg4w HST4
          go_wp2_with (at_make; refine wpList_make_full _ rfl _ _ 22 rfl w.heap.size 5 j0 (.int .u8 0) 1 Try.underlying22 hj hy0 hy1 _ _ _ _ (2000 + q) rfl rfl (by omega) (by omega) (by rw [hy2]; omega) (by unfold maxLen; omega) ?e1 ?_)
          case e1 => exact hs6
          intro w7 ho7 hg7
          have hg7w : w.grownBy w7 (some cb) := grown_own hg6w hg7 (fun g h => by cases h)
          have HST7 : Hid (St w7 cb v bs) := st_below HST6.out (below_of_own (B := w.heap.size) hg7 (st_lt HST6.out) (fun g h => by cases h) hcb)
          have hso : w7.ownsRow w.heap.size 9 1 _ acc.length (cellsS acc) := owns_grown ho6 hg7 (fun k hk => by cases hk)
          have ho8 : w7.ownsRow w.heap.size 5 1 (.slice (some ⟨w6.heap.size, 0, none⟩) (2000 + q) (2000 + q)) (List.replicate (2000 + q) (0 : Int)).length (cellsByteS (List.replicate (2000 + q) 0)) := by
            rw [List.length_replicate]
            have h := ho7
            rw [toList_madeCells_one] at h
            simpa using h
          have hstr := str_own ho8 (zeros_bytes _)
          obtain ⟨x, hx⟩ : ∃ x, x = asB (List.replicate (2000 + q) (0 : Int)) := ⟨_, rfl⟩
          rw [← hx] at hstr
          have hxs : x.size ≤ 3000 := by rw [hx, asB_size, List.length_replicate]; omega
          have hs7 := hg7w.size
          clear ho7 hg7 hg6w ho8 ho6 hx HST6
          go_wp2_with (at_builtin; refine wpList_append_own _ rfl _ _ 37 rfl w.heap.size 9 i0 (.string ⟨#[]⟩) 1 16 Try.underlying37 hi hz0 hz1 hz2 rfl (by decide) _ _ _ rfl (hso.alloc _) ⟨w7.heap.size, 0, none⟩ 1 1 [.string x] rfl rfl ?d1 ?d2 ?d3 ?d4 ?d5 ?_)
          case d1 => exact one_str w7 x _
          case d2 => intro u hu; rw [List.mem_singleton.1 hu]; rfl
          case d3 => unfold maxLen; omega
          case d4 => omega
          case d5 => simp; omega
          intro v9 w9 ho9 hg9 _
          have hg10 := grown_trans (World.grownBy_alloc w7 _ _) hg9
          have hg11 : w.grownBy w9 (some cb) := grown_own hg7w hg10 (fun g h => (hso.lt g h).1)
          have HST9 : Hid (St w9 cb v bs) := st_below HST7.out (below_of_own hg10 (st_lt HST7.out) (fun g h => (hso.lt g h).1) hcb)
          have ho10 : w9.ownsRow w.heap.size 9 1 v9 (acc ++ [x]).length (cellsS (acc ++ [x])) := by simpa using ho9
          have hlen8 : (acc ++ [x]).length ≤ 300 := by rw [List.length_append, List.length_singleton]; omega
          clear ho9 hg9 hg10 hso hg7w
          go_wp2
          go_ret
          exact ⟨_, acc ++ [x], rfl, hlen8, all_snoc hab.out hxs, ho10, HST9.out, hg11⟩

/-- a cell of a table that lay when a cursor went on -/
theorem tab_cell {w2 w3 : World} {Tb : Array Value} {t : TypeId} {cb j : Nat} {u : Value} (hg : (w2.alloc (.cells Tb t)).grownBy w3 (some cb)) (hcb : cb < w2.heap.size) (h : Tb[j]? = some u) : w3.cell? ⟨w2.heap.size, j, none⟩ = some u := by
  rw [World.cell?_of_block (w := w2.alloc (.cells Tb t)) (hg.block w2.heap.size (by simp) (by simp; omega)), World.cell?_alloc_at _ _ _ _ rfl]
  exact h


/-- some part of a longer text -/
abbrev longC (t : ByteArray) : Array Value := #[.string ⟨#[97, 98, 99, 97, 98, 99, 97, 98]⟩, .string ⟨#[99, 101, 108, 108, 97, 114]⟩, .string ⟨#[115, 116, 111, 110, 101]⟩, .string t, .string ⟨#[97, 97, 97, 97, 97, 97, 97, 97, 97, 97]⟩, .string ⟨#[1, 0, 120]⟩]
theorem longC_get (t : ByteArray) (ht : t.size ≤ 10) (j : Nat) (h : j < 6) : ∃ z : ByteArray, (longC t)[j]? = some (.string z) ∧ z.size ≤ 10 := by
  rcases (show j = 0 ∨ j = 1 ∨ j = 2 ∨ j = 3 ∨ j = 4 ∨ j = 5 by omega) with rfl | rfl | rfl | rfl | rfl | rfl
  · exact ⟨_, rfl, by decide⟩
  · exact ⟨_, rfl, by decide⟩
  · exact ⟨_, rfl, by decide⟩
  · exact ⟨_, rfl, ht⟩
  · exact ⟨_, rfl, by decide⟩
  · exact ⟨_, rfl, by decide⟩

set_option maxHeartbeats 2000000 in
set_option maxRecDepth 100000 in
theorem drawLong_any (cb : Nat) (v : Value) (bs : List Int) (w : World) (hst : St w cb v bs) (hl : bs.length ≤ 4096) (hz : ∀ j, 0 ≤ bs.getD j 0 ∧ bs.getD j 0 ≤ 255) :
    Calls Try.prog 96 #[.pointer (some ⟨cb, 0, none⟩)] w fun e w' => ∃ s : ByteArray, e = .returned (.string s) ∧ s.size ≤ 60 ∧ St w' cb v bs ∧ w.grownBy w' (some cb) := by
  have hcb := st_lt hst
  have HZ : Hid (∀ j, 0 ≤ bs.getD j 0 ∧ bs.getD j 0 ≤ 255) := hz
  clear hz
  go_enter Try.func96, Try.ntmps96
  go_wp2_with fail
  refine (below_any cb v bs 6 w hst hl HZ.out (by omega)).mono ?_
  rintro e w1 ⟨r, rfl, hr0, hr1, _, hst1, hg1⟩
  have hr2 := hr1 (by omega)
  have HST1 : Hid (St w1 cb v bs) := hst1
  clear hst hst1 hr1
  go_wp2
  go_loopw [3, 4] (fun q n wr => ∃ (m : Int) (s : ByteArray), n = .int .i64 m ∧ q = .string s ∧ 0 ≤ m ∧ (s.size : Int) + 10 * m ≤ 60 ∧ Hid (St wr cb v bs) ∧ w.grownBy wr (some cb)) (fun _ n _ => (intOf n).toNat)
  case atStart => exact ⟨1 + r, ⟨#[]⟩, rfl, rfl, by omega, by show ((0 : Nat) : Int) + _ ≤ _; omega, HST1, hg1⟩
  case round =>
    obtain ⟨m, s, rfl, rfl, hm0, hsm, hst2, hg2⟩ := hrel
    have hs2 := hg2.size
    clear hg1 HST1
    by_cases hlt : 0 < m
    · go_wp2_with fail
      refine (drawText_any cb v bs 9 _ hst2.out hl HZ.out (by omega) (by omega)).mono ?_
      rintro e w3 ⟨t, rfl, ht, hst3, hg3⟩
      have hg3w := grown_trans hg2 hg3
      have hs3 := hg3w.size
      have hst3' := st_below hst3 ((Below.refl (cb + 1) w3).alloc (by omega) (.cells (longC t) 9))
      clear hst2 hg2 hg3 hst3
      go_wp2_with fail
      refine (below_any cb v bs 6 _ hst3' hl HZ.out (by omega)).mono ?_
      rintro e w4 ⟨q, rfl, hq0, hq1, _, hst4, hg4⟩
      have hq2 := hq1 (by omega)
      obtain ⟨q, rfl⟩ := Int.eq_ofNat_of_zero_le hq0
      obtain ⟨z, hzq, hzs⟩ := longC_get t (by omega) q (by omega)
      have hcell := tab_cell hg4 (by omega) hzq
      have hg4w := grown_trans hg3w (grown_trans (World.grownBy_alloc w3 _ _) hg4)
      have HST4 : Hid (St w4 cb v bs) := hst4
      have hadd : ∀ W : World, (Op.stringOp .add s z).run Try.prog W = .ok (.string (s ++ z)) W := fun W => run_string_add_sum W _ _ (by omega)
      have hsz : ((s ++ z).size : Int) + 10 * (m - 1) ≤ 60 := by rw [ByteArray.size_append]; omega
      clear hst3' hq1 hg4 hg3w hst4 hzq
      go_wp2
      go_roundw
      case rel => exact ⟨m - 1, s ++ z, by go_num, rfl, by omega, hsz, HST4, hg4w⟩
      case measure => simp [intOf]; omega
    · have hst0 := hst2.out
      clear hst2
      go_wp2
      go_ret
      exact ⟨s, rfl, by omega, hst0, hg2⟩

abbrev c3a : Array Value := #[.int .i64 0, .int .i64 17, .int .i64 16]
theorem c3a_get (j : Nat) (h : j < 3) : ∃ z, c3a[j]? = some (.int .i64 z) := by
  rcases (show j = 0 ∨ j = 1 ∨ j = 2 by omega) with rfl | rfl | rfl <;> exact ⟨_, rfl⟩
abbrev c3b : Array Value := #[.int .i64 0, .int .i64 1000, .int .i64 1001]
theorem c3b_get (j : Nat) (h : j < 3) : ∃ z, c3b[j]? = some (.int .i64 z) := by
  rcases (show j = 0 ∨ j = 1 ∨ j = 2 by omega) with rfl | rfl | rfl <;> exact ⟨_, rfl⟩
abbrev c4a : Array Value := #[.int .i64 0, .int .i64 1000, .int .i64 1001, .int .i64 (-1)]
theorem c4a_get (j : Nat) (h : j < 4) : ∃ z, c4a[j]? = some (.int .i64 z) := by
  rcases (show j = 0 ∨ j = 1 ∨ j = 2 ∨ j = 3 by omega) with rfl | rfl | rfl | rfl <;> exact ⟨_, rfl⟩
/-- a rule in a block of its own -/
abbrev RuleAt (w : World) (b : Nat) (W P L M : Int) : Prop := w.heap[b]? = some (.cells #[.int .i64 W, .int .i64 P, .int .i64 L, .int .i64 M] 56 (0, 0))
theorem ruleAt_set0 {w : World} {b : Nat} {W P L M : Int} (h : RuleAt w b W P L M) (x : Int) : RuleAt (w.setCell ⟨b, 0, none⟩ (.int .i64 x)) b x P L M := by simp [RuleAt, World.setCell, Array.getElem?_modify, show w.heap[b]? = _ from h]
theorem ruleAt_set1 {w : World} {b : Nat} {W P L M : Int} (h : RuleAt w b W P L M) (x : Int) : RuleAt (w.setCell ⟨b, 1, none⟩ (.int .i64 x)) b W x L M := by simp [RuleAt, World.setCell, Array.getElem?_modify, show w.heap[b]? = _ from h]
theorem ruleAt_set2 {w : World} {b : Nat} {W P L M : Int} (h : RuleAt w b W P L M) (x : Int) : RuleAt (w.setCell ⟨b, 2, none⟩ (.int .i64 x)) b W P x M := by simp [RuleAt, World.setCell, Array.getElem?_modify, show w.heap[b]? = _ from h]
theorem ruleAt_set3 {w : World} {b : Nat} {W P L M : Int} (h : RuleAt w b W P L M) (x : Int) : RuleAt (w.setCell ⟨b, 3, none⟩ (.int .i64 x)) b W P L x := by simp [RuleAt, World.setCell, Array.getElem?_modify, show w.heap[b]? = _ from h]

theorem grown_set (W : World) (b i : Nat) (x : Value) : W.grownBy (W.setCell ⟨b, i, none⟩ x) (some b) :=
  ⟨rfl, rfl, rfl, by simp [World.setCell], fun k _ hk => Below.heap_setCell _ _ _ _ (fun e => hk (by simp [e]))⟩
/-- where the drawing of a rule stands: the rule lies in block rb, the result's block is as it was laid -/
structure RS (cb : Nat) (v : Value) (bs : List Int) (w : World) (rb : Nat) (W P L M : Int) (w' : World) : Prop where
  st : St w' cb v bs
  gr : w.grownBy w' (some cb)
  at_ : RuleAt w' rb W P L M
  res : RuleAt w' w.heap.size 0 0 0 0
  lt0 : cb < w.heap.size
  lt1 : w.heap.size < rb
theorem RS.lt {cb : Nat} {v : Value} {bs : List Int} {w : World} {rb : Nat} {W P L M : Int} {w' : World} (h : RS cb v bs w rb W P L M w') : rb < w'.heap.size := (Array.getElem?_eq_some_iff.1 h.at_).1
theorem RS.draw {cb : Nat} {v : Value} {bs : List Int} {w : World} {rb : Nat} {W P L M : Int} {w1 w2 : World} (h : RS cb v bs w rb W P L M w1) (hst : St w2 cb v bs) (hg : w1.grownBy w2 (some cb)) : RS cb v bs w rb W P L M w2 :=
  have h0 := h.lt0
  have h1 := h.lt1
  ⟨hst, grown_trans h.gr hg, (hg.block rb h.lt (fun e => by cases e; omega)).trans h.at_, (hg.block w.heap.size (Nat.lt_trans h1 h.lt) (fun e => by cases e; omega)).trans h.res, h0, h1⟩
theorem RS.alloc {cb : Nat} {v : Value} {bs : List Int} {w : World} {rb : Nat} {W P L M : Int} {w1 : World} (h : RS cb v bs w rb W P L M w1) (o : Obj) : RS cb v bs w rb W P L M (w1.alloc o) :=
  have h0 := h.lt0
  have h1 := h.lt1
  have h2 := h.lt
  ⟨st_below h.st ((Below.refl (cb + 1) w1).alloc (by omega) o), grown_trans h.gr (World.grownBy_alloc w1 o _), (Below.heap_alloc w1 o rb h2).trans h.at_, (Below.heap_alloc w1 o w.heap.size (by omega)).trans h.res, h0, h1⟩
theorem RS.drew {cb : Nat} {v : Value} {bs : List Int} {w : World} {rb : Nat} {W P L M : Int} {w1 : World} (h : RS cb v bs w rb W P L M w1) : RS cb v bs w rb W P L M w1.drew := ⟨h.st, grown_drew h.gr, h.at_, h.res, h.lt0, h.lt1⟩
theorem RS.keep {cb : Nat} {v : Value} {bs : List Int} {w : World} {rb : Nat} {W P L M : Int} {w1 : World} (h : RS cb v bs w rb W P L M w1) (i : Nat) (x : Value) :
    St (w1.setCell ⟨rb, i, none⟩ x) cb v bs ∧ w.grownBy (w1.setCell ⟨rb, i, none⟩ x) (some cb) ∧ RuleAt (w1.setCell ⟨rb, i, none⟩ x) w.heap.size 0 0 0 0 :=
  have h0 := h.lt0
  have h1 := h.lt1
  ⟨st_below h.st ((Below.refl (cb + 1) w1).setCell (p := ⟨rb, i, none⟩) (show cb + 1 ≤ rb by omega) x), grown_own h.gr (grown_set w1 rb i x) (fun g e => by cases e; omega), (Below.heap_setCell w1 ⟨rb, i, none⟩ x w.heap.size (show ¬ w.heap.size = rb by omega)).trans h.res⟩
theorem RS.set0 {cb : Nat} {v : Value} {bs : List Int} {w : World} {rb : Nat} {W P L M : Int} {w1 : World} (h : RS cb v bs w rb W P L M w1) (x : Int) : RS cb v bs w rb x P L M (w1.setCell ⟨rb, 0, none⟩ (.int .i64 x)) :=
  ⟨(h.keep 0 _).1, (h.keep 0 _).2.1, ruleAt_set0 h.at_ x, (h.keep 0 _).2.2, h.lt0, h.lt1⟩
theorem RS.set1 {cb : Nat} {v : Value} {bs : List Int} {w : World} {rb : Nat} {W P L M : Int} {w1 : World} (h : RS cb v bs w rb W P L M w1) (x : Int) : RS cb v bs w rb W x L M (w1.setCell ⟨rb, 1, none⟩ (.int .i64 x)) :=
  ⟨(h.keep 1 _).1, (h.keep 1 _).2.1, ruleAt_set1 h.at_ x, (h.keep 1 _).2.2, h.lt0, h.lt1⟩
theorem RS.set2 {cb : Nat} {v : Value} {bs : List Int} {w : World} {rb : Nat} {W P L M : Int} {w1 : World} (h : RS cb v bs w rb W P L M w1) (x : Int) : RS cb v bs w rb W P x M (w1.setCell ⟨rb, 2, none⟩ (.int .i64 x)) :=
  ⟨(h.keep 2 _).1, (h.keep 2 _).2.1, ruleAt_set2 h.at_ x, (h.keep 2 _).2.2, h.lt0, h.lt1⟩
theorem RS.set3 {cb : Nat} {v : Value} {bs : List Int} {w : World} {rb : Nat} {W P L M : Int} {w1 : World} (h : RS cb v bs w rb W P L M w1) (x : Int) : RS cb v bs w rb W P L x (w1.setCell ⟨rb, 3, none⟩ (.int .i64 x)) :=
  ⟨(h.keep 3 _).1, (h.keep 3 _).2.1, ruleAt_set3 h.at_ x, (h.keep 3 _).2.2, h.lt0, h.lt1⟩

/-- the rule handed back -/
theorem RS.fin {cb : Nat} {v : Value} {bs : List Int} {w : World} {rb : Nat} {W P L M : Int} {w1 : World} (h : RS cb v bs w rb W P L M w1) (wf : World)
    (hw : wf = (((w1.setCell ⟨w.heap.size, 0, none⟩ (.int .i64 W)).setCell ⟨w.heap.size, 1, none⟩ (.int .i64 P)).setCell ⟨w.heap.size, 2, none⟩ (.int .i64 L)).setCell ⟨w.heap.size, 3, none⟩ (.int .i64 M)) :
    RuleAt wf w.heap.size W P L M ∧ St wf cb v bs ∧ w.grownBy wf (some cb) := by
  have h0 := h.lt0
  subst hw
  refine ⟨ruleAt_set3 (ruleAt_set2 (ruleAt_set1 (ruleAt_set0 h.res W) P) L) M, st_below h.st ((((((Below.refl (cb + 1) w1).setCell (p := ⟨w.heap.size, 0, none⟩) (show cb + 1 ≤ w.heap.size by omega) _).setCell (p := ⟨w.heap.size, 1, none⟩) (show cb + 1 ≤ w.heap.size by omega) _).setCell (p := ⟨w.heap.size, 2, none⟩) (show cb + 1 ≤ w.heap.size by omega) _)).setCell (p := ⟨w.heap.size, 3, none⟩) (show cb + 1 ≤ w.heap.size by omega) _), ?_⟩
  exact grown_own (grown_own (grown_own (grown_own h.gr (grown_set _ _ 0 _) (fun g e => by cases e; exact Nat.le_refl _)) (grown_set _ _ 1 _) (fun g e => by cases e; exact Nat.le_refl _)) (grown_set _ _ 2 _) (fun g e => by cases e; exact Nat.le_refl _)) (grown_set _ _ 3 _) (fun g e => by cases e; exact Nat.le_refl _)

set_option maxHeartbeats 4000000 in
set_option maxRecDepth 100000 in
theorem drawRule_any (cb : Nat) (v : Value) (bs : List Int) (w : World) (hst : St w cb v bs) (hl : bs.length ≤ 4096) (hz : ∀ j, 0 ≤ bs.getD j 0 ∧ bs.getD j 0 ≤ 255) :
    Calls Try.prog 97 #[.pointer (some ⟨cb, 0, none⟩)] w fun e w' => ∃ W P L M : Int, e = .returned (ruleV W P L M) ∧ St w' cb v bs ∧ w.grownBy w' (some cb) := by
  have hcb := st_lt hst
  have HZ : Hid (∀ j, 0 ≤ bs.getD j 0 ∧ bs.getD j 0 ≤ 255) := hz
  have hr0 := heap_alloc_new w (.cells #[.int .i64 0, .int .i64 0, .int .i64 0, .int .i64 0] 56)
  have hst0 := st_below hst ((Below.refl (cb + 1) w).alloc (by omega) (.cells #[.int .i64 0, .int .i64 0, .int .i64 0, .int .i64 0] 56))
  have hg0 := World.grownBy_alloc w (.cells #[.int .i64 0, .int .i64 0, .int .i64 0, .int .i64 0] 56) (some cb)
  clear hz hst
  go_enter Try.func97, Try.ntmps97
  go_wp2_with fail
  refine (below_any cb v bs 3 _ hst0 hl HZ.out (by omega)).mono ?_
  rintro e w1 ⟨a, rfl, ha0, ha1, _, hst1, hg1⟩
  have ha2 := ha1 (by omega)
  have hr1 := (hg1.block w.heap.size (by simp) (fun e => by cases e; omega)).trans hr0
  have hg1w := grown_trans hg0 hg1
  have hs1 := hg1.size
  rw [World.size_alloc] at hs1
  clear hst0 hg0 hg1 hr0 ha1
  go_wp2_with fail
  refine (below_any cb v bs 9 _ hst1 hl HZ.out (by omega)).mono ?_
  rintro e w2 ⟨b, rfl, hb0, hb1, _, hst2, hg2⟩
  have hb2 := hb1 (by omega)
  have hr2 := (hg2.block w.heap.size (by omega) (fun e => by cases e; omega)).trans hr1
  have hg2w := grown_trans hg1w hg2
  have hs2 := hg2.size
  clear hst1 hg1w hg2 hr1 hb1
  go_wp2
  have hRS : RS cb v bs w w2.heap.size (1 + a) (1 + b) 0 0 (w2.alloc (.cells #[.int .i64 (1 + a), .int .i64 (1 + b), .int .i64 0, .int .i64 0] 56)) :=
    ⟨st_below hst2 ((Below.refl (cb + 1) w2).alloc (by omega) _), grown_trans hg2w (World.grownBy_alloc w2 _ (some cb)), heap_alloc_new w2 _, (Below.heap_alloc w2 _ w.heap.size (by omega)).trans hr2, hcb, by omega⟩
  generalize hw3 : w2.alloc (.cells #[.int .i64 (1 + a), .int .i64 (1 + b), .int .i64 0, .int .i64 0] 56) = w3 at hRS ⊢
  generalize w2.heap.size = rb at hs2 hRS ⊢
  clear hw3 hst2 hg2w hr2
  obtain ⟨d0, d1, d2, d3⟩ := rule_cells rfl hRS.at_
  have H3 : Hid (RS cb v bs w rb (1 + a) (1 + b) 0 0 w3) := hRS
  clear hRS
  have e0 : w3.drew.cell? ⟨rb, 0, none⟩ = some (.int .i64 (1 + a)) := d0
  go_region_held (fun W' : World => W'.cell? ⟨rb, 0, none⟩ = some (.int .i64 (1 + a))) (first | exact e0 | exact c0 | exact hk2 _)
    (first | (go_at_call 65; refine (below_any cb v bs 4 _ H3.out.drew.st hl HZ.out (by omega)).mono ?_; rintro e w4 ⟨c, rfl, hc0, hc1, _, hst4, hg4⟩; have hc2 := hc1 (by omega); have H4 : Hid (RS cb v bs w rb (1 + a) (1 + b) 0 0 w4) := H3.out.drew.draw hst4 hg4; clear hst4 hg4 hc1; obtain ⟨c0, c1, c2, c3⟩ := rule_cells rfl H4.out.at_; have f2 := Lib.frozen_of_heap H4.out.at_ 2; have hk2 := fun x : Int => (rule_cells rfl (H4.out.set2 x).at_).1; have hwm : IntKind.i64.wrap (1 + a + c) = 1 + a + c := by rw [IntKind.wrap_i64]; omega))
  have H5 : Hid (RS cb v bs w rb (1 + a) (1 + b) (1 + a + c) 0 (w4.setCell ⟨rb, 2, none⟩ (.int .i64 (1 + a + c)))) := H4.out.set2 _
  generalize w4.setCell ⟨rb, 2, none⟩ (.int .i64 (1 + a + c)) = w5 at H5 ⊢
  clear d0 d1 d2 d3 H3 e0 H4 c0 c1 c2 c3 f2 hk2 hwm
  rw [Exit.then_normal]
  go_wp2
  obtain ⟨d0, d1, d2, d3⟩ := rule_cells rfl H5.out.at_
  have e2 : w5.drew.cell? ⟨rb, 2, none⟩ = some (.int .i64 (1 + a + c)) := d2
  go_region_held (fun W' : World => W'.cell? ⟨rb, 2, none⟩ = some (.int .i64 (1 + a + c))) (first | exact e2 | exact c2 | exact hk3 _)
    (first | (go_at_call 65; refine (below_any cb v bs 12 _ H5.out.drew.st hl HZ.out (by omega)).mono ?_; rintro e w6 ⟨f, rfl, hf0, hf1, _, hst6, hg6⟩; have hf2 := hf1 (by omega); have H6 : Hid (RS cb v bs w rb (1 + a) (1 + b) (1 + a + c) 0 w6) := H5.out.drew.draw hst6 hg6; clear hst6 hg6 hf1; obtain ⟨c0, c1, c2, c3⟩ := rule_cells rfl H6.out.at_; have f3 := Lib.frozen_of_heap H6.out.at_ 3; have hk3 := fun x : Int => (rule_cells rfl (H6.out.set3 x).at_).2.2.1; have hwm : IntKind.i64.wrap (1 + a + c + f) = 1 + a + c + f := by rw [IntKind.wrap_i64]; omega))
  have H7 : Hid (RS cb v bs w rb (1 + a) (1 + b) (1 + a + c) (1 + a + c + f) (w6.setCell ⟨rb, 3, none⟩ (.int .i64 (1 + a + c + f)))) := H6.out.set3 _
  generalize w6.setCell ⟨rb, 3, none⟩ (.int .i64 (1 + a + c + f)) = w7 at H7 ⊢
  clear d0 d1 d2 d3 H5 e2 H6 c0 c1 c2 c3 f3 hk3 hwm
  rw [Exit.then_normal]
  generalize 1 + a + c + f = M at H7
  generalize 1 + a + c = L at H7
  generalize 1 + b = P at H7
  generalize 1 + a = W at H7
  go_wp2_with fail
  refine (once_any cb v bs 12 _ H7.out.st hl HZ.out (by omega)).mono ?_
  rintro e w8 ⟨o, rfl, hst8, hg8⟩
  have H8 : Hid (RS cb v bs w rb W P L M w8) := H7.out.draw hst8 hg8
  clear hst8 hg8 H7
  cases o with
  | false =>
    obtain ⟨d0, d1, d2, d3⟩ := rule_cells rfl H8.out.at_
    obtain ⟨g0, g1, g2, g3⟩ := rule_cells rfl H8.out.res
    have i0 := Lib.frozen_of_heap H8.out.res 0
    have i1 := Lib.frozen_of_heap H8.out.res 1
    have i2 := Lib.frozen_of_heap H8.out.res 2
    have i3 := Lib.frozen_of_heap H8.out.res 3
    go_wp2
    generalize hwf : (((w8.setCell ⟨w.heap.size, 0, none⟩ (.int .i64 W)).setCell ⟨w.heap.size, 1, none⟩ (.int .i64 P)).setCell ⟨w.heap.size, 2, none⟩ (.int .i64 L)).setCell ⟨w.heap.size, 3, none⟩ (.int .i64 M) = wf
    obtain ⟨k1, k2, k3⟩ := H8.out.fin wf hwf.symm
    obtain ⟨q0, q1, q2, q3⟩ := rule_cells rfl k1
    clear hwf
    exact bodyPost_ret (v := ruleV W P L M) (by simp [results, Try.results97, go_sem, q0, q1, q2, q3]) rfl ⟨_, _, _, _, rfl, k2, k3⟩
  | true =>
    go_wp2_with fail
    refine (below_any cb v bs 4 _ H8.out.st hl HZ.out (by omega)).mono ?_
    rintro e w9 ⟨k, rfl, hk0, hk1, _, hst9, hg9⟩
    have hk2 := hk1 (by omega)
    have H9 : Hid (RS cb v bs w rb W P L M w9) := H8.out.draw hst9 hg9
    clear hst9 hg9 H8 hk1
    have hk3 : k = 0 ∨ k = 1 ∨ k = 2 ∨ k = 3 := by omega
    clear hk0 hk2
    rcases hk3 with rfl | rfl | rfl | rfl
    focus
      have H10 : Hid (RS cb v bs w rb W P L M (w9.alloc (.cells c3a 2))) := H9.out.alloc _
      have hlt9 : cb < w9.heap.size := Nat.lt_trans H9.out.lt0 (Nat.lt_trans H9.out.lt1 H9.out.lt)
      go_wp2_with fail
      refine (below_any cb v bs 3 _ H10.out.st hl HZ.out (by omega)).mono ?_
      rintro e w11 ⟨q, rfl, hq0, hq1, _, hst11, hg11⟩
      have hq2 := hq1 (by omega)
      obtain ⟨q, rfl⟩ := Int.eq_ofNat_of_zero_le hq0
      obtain ⟨z, hzq⟩ := c3a_get q (by omega)
      have hcell := tab_cell hg11 hlt9 hzq
      have H11 : Hid (RS cb v bs w rb W P L M w11) := H10.out.draw hst11 hg11
      obtain ⟨d0, d1, d2, d3⟩ := rule_cells rfl H11.out.at_
      obtain ⟨g0, g1, g2, g3⟩ := rule_cells rfl H11.out.res
      have i0 := Lib.frozen_of_heap H11.out.res 0
      have i1 := Lib.frozen_of_heap H11.out.res 1
      have i2 := Lib.frozen_of_heap H11.out.res 2
      have i3 := Lib.frozen_of_heap H11.out.res 3
      have ir := Lib.frozen_of_heap H11.out.at_ 0
      have hne1 : ¬ w.heap.size = rb := by have := H11.out.lt1; omega
      have hne2 : ¬ rb = w.heap.size := by have := H11.out.lt1; omega
      clear hst11 hg11 H10 H9 hq1 hzq
      go_wp2
      generalize hwf : ((((w11.setCell ⟨rb, 0, none⟩ (.int .i64 z)).setCell ⟨w.heap.size, 0, none⟩ (.int .i64 z)).setCell ⟨w.heap.size, 1, none⟩ (.int .i64 P)).setCell ⟨w.heap.size, 2, none⟩ (.int .i64 L)).setCell ⟨w.heap.size, 3, none⟩ (.int .i64 M) = wf
      obtain ⟨k1, k2, k3⟩ := (H11.out.set0 z).fin wf hwf.symm
      obtain ⟨q0, q1, q2, q3⟩ := rule_cells rfl k1
      clear hwf
      exact bodyPost_ret (v := ruleV z P L M) (by simp [results, Try.results97, go_sem, q0, q1, q2, q3]) rfl ⟨_, _, _, _, rfl, k2, k3⟩
    focus
      have H10 : Hid (RS cb v bs w rb W P L M (w9.alloc (.cells c4a 2))) := H9.out.alloc _
      have hlt9 : cb < w9.heap.size := Nat.lt_trans H9.out.lt0 (Nat.lt_trans H9.out.lt1 H9.out.lt)
      go_wp2_with fail
      refine (below_any cb v bs 4 _ H10.out.st hl HZ.out (by omega)).mono ?_
      rintro e w11 ⟨q, rfl, hq0, hq1, _, hst11, hg11⟩
      have hq2 := hq1 (by omega)
      obtain ⟨q, rfl⟩ := Int.eq_ofNat_of_zero_le hq0
      obtain ⟨z, hzq⟩ := c4a_get q (by omega)
      have hcell := tab_cell hg11 hlt9 hzq
      have H11 : Hid (RS cb v bs w rb W P L M w11) := H10.out.draw hst11 hg11
      obtain ⟨d0, d1, d2, d3⟩ := rule_cells rfl H11.out.at_
      obtain ⟨g0, g1, g2, g3⟩ := rule_cells rfl H11.out.res
      have i0 := Lib.frozen_of_heap H11.out.res 0
      have i1 := Lib.frozen_of_heap H11.out.res 1
      have i2 := Lib.frozen_of_heap H11.out.res 2
      have i3 := Lib.frozen_of_heap H11.out.res 3
      have ir := Lib.frozen_of_heap H11.out.at_ 1
      have hne1 : ¬ w.heap.size = rb := by have := H11.out.lt1; omega
      have hne2 : ¬ rb = w.heap.size := by have := H11.out.lt1; omega
      clear hst11 hg11 H10 H9 hq1 hzq
      go_wp2
      generalize hwf : ((((w11.setCell ⟨rb, 1, none⟩ (.int .i64 z)).setCell ⟨w.heap.size, 0, none⟩ (.int .i64 W)).setCell ⟨w.heap.size, 1, none⟩ (.int .i64 z)).setCell ⟨w.heap.size, 2, none⟩ (.int .i64 L)).setCell ⟨w.heap.size, 3, none⟩ (.int .i64 M) = wf
      obtain ⟨k1, k2, k3⟩ := (H11.out.set1 z).fin wf hwf.symm
      obtain ⟨q0, q1, q2, q3⟩ := rule_cells rfl k1
      clear hwf
      exact bodyPost_ret (v := ruleV W z L M) (by simp [results, Try.results97, go_sem, q0, q1, q2, q3]) rfl ⟨_, _, _, _, rfl, k2, k3⟩
    focus
      have H10 : Hid (RS cb v bs w rb W P L M (w9.alloc (.cells c3b 2))) := H9.out.alloc _
      have hlt9 : cb < w9.heap.size := Nat.lt_trans H9.out.lt0 (Nat.lt_trans H9.out.lt1 H9.out.lt)
      go_wp2_with fail
      refine (below_any cb v bs 3 _ H10.out.st hl HZ.out (by omega)).mono ?_
      rintro e w11 ⟨q, rfl, hq0, hq1, _, hst11, hg11⟩
      have hq2 := hq1 (by omega)
      obtain ⟨q, rfl⟩ := Int.eq_ofNat_of_zero_le hq0
      obtain ⟨z, hzq⟩ := c3b_get q (by omega)
      have hcell := tab_cell hg11 hlt9 hzq
      have H11 : Hid (RS cb v bs w rb W P L M w11) := H10.out.draw hst11 hg11
      obtain ⟨d0, d1, d2, d3⟩ := rule_cells rfl H11.out.at_
      obtain ⟨g0, g1, g2, g3⟩ := rule_cells rfl H11.out.res
      have i0 := Lib.frozen_of_heap H11.out.res 0
      have i1 := Lib.frozen_of_heap H11.out.res 1
      have i2 := Lib.frozen_of_heap H11.out.res 2
      have i3 := Lib.frozen_of_heap H11.out.res 3
      have ir := Lib.frozen_of_heap H11.out.at_ 2
      have hne1 : ¬ w.heap.size = rb := by have := H11.out.lt1; omega
      have hne2 : ¬ rb = w.heap.size := by have := H11.out.lt1; omega
      clear hst11 hg11 H10 H9 hq1 hzq
      go_wp2
      generalize hwf : ((((w11.setCell ⟨rb, 2, none⟩ (.int .i64 z)).setCell ⟨w.heap.size, 0, none⟩ (.int .i64 W)).setCell ⟨w.heap.size, 1, none⟩ (.int .i64 P)).setCell ⟨w.heap.size, 2, none⟩ (.int .i64 z)).setCell ⟨w.heap.size, 3, none⟩ (.int .i64 M) = wf
      obtain ⟨k1, k2, k3⟩ := (H11.out.set2 z).fin wf hwf.symm
      obtain ⟨q0, q1, q2, q3⟩ := rule_cells rfl k1
      clear hwf
      exact bodyPost_ret (v := ruleV W P z M) (by simp [results, Try.results97, go_sem, q0, q1, q2, q3]) rfl ⟨_, _, _, _, rfl, k2, k3⟩
    focus
      have H10 : Hid (RS cb v bs w rb W P L M (w9.alloc (.cells c3b 2))) := H9.out.alloc _
      have hlt9 : cb < w9.heap.size := Nat.lt_trans H9.out.lt0 (Nat.lt_trans H9.out.lt1 H9.out.lt)
      go_wp2_with fail
      refine (below_any cb v bs 3 _ H10.out.st hl HZ.out (by omega)).mono ?_
      rintro e w11 ⟨q, rfl, hq0, hq1, _, hst11, hg11⟩
      have hq2 := hq1 (by omega)
      obtain ⟨q, rfl⟩ := Int.eq_ofNat_of_zero_le hq0
      obtain ⟨z, hzq⟩ := c3b_get q (by omega)
      have hcell := tab_cell hg11 hlt9 hzq
      have H11 : Hid (RS cb v bs w rb W P L M w11) := H10.out.draw hst11 hg11
      obtain ⟨d0, d1, d2, d3⟩ := rule_cells rfl H11.out.at_
      obtain ⟨g0, g1, g2, g3⟩ := rule_cells rfl H11.out.res
      have i0 := Lib.frozen_of_heap H11.out.res 0
      have i1 := Lib.frozen_of_heap H11.out.res 1
      have i2 := Lib.frozen_of_heap H11.out.res 2
      have i3 := Lib.frozen_of_heap H11.out.res 3
      have ir := Lib.frozen_of_heap H11.out.at_ 3
      have hne1 : ¬ w.heap.size = rb := by have := H11.out.lt1; omega
      have hne2 : ¬ rb = w.heap.size := by have := H11.out.lt1; omega
      clear hst11 hg11 H10 H9 hq1 hzq
      go_wp2
      generalize hwf : ((((w11.setCell ⟨rb, 3, none⟩ (.int .i64 z)).setCell ⟨w.heap.size, 0, none⟩ (.int .i64 W)).setCell ⟨w.heap.size, 1, none⟩ (.int .i64 P)).setCell ⟨w.heap.size, 2, none⟩ (.int .i64 L)).setCell ⟨w.heap.size, 3, none⟩ (.int .i64 z) = wf
      obtain ⟨k1, k2, k3⟩ := (H11.out.set3 z).fin wf hwf.symm
      obtain ⟨q0, q1, q2, q3⟩ := rule_cells rfl k1
      clear hwf
      exact bodyPost_ret (v := ruleV W P L z) (by simp [results, Try.results97, go_sem, q0, q1, q2, q3]) rfl ⟨_, _, _, _, rfl, k2, k3⟩

end Go.Proofs.Ytndecefcnalgdaa
