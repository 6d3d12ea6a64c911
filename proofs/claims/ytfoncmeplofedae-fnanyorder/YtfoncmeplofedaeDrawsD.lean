/- CONTRACTS: spec.l2DrawText, DrawClash, DrawClashes: whatever the code, some texts. -/
import Derived.Test.YtfoncmeplofedaeDraw
import Derived.Test.YtfoncmeplofedaeDig
import Derived.Test.YtfoncmeplofedaeOneT
namespace Go.Proofs.Ytfoncmeplofedae
open Go.RowKit

theorem code_all {bs : List Int} (h : Bytes bs) : ∀ j, 0 ≤ bs.getD j 0 ∧ bs.getD j 0 ≤ 255 := bytes_get h
theorem below_own' {w2 w3 : World} {row : Option Nat} {cb B : Nat} (hg : w2.grownBy w3 row) (hcb : cb < w2.heap.size) (hr : ∀ g, row = some g → B ≤ g) (hB : cb < B) : Below (cb + 1) w2 w3 :=
  ⟨hg.os, hg.tape, hg.output, hg.size, fun k hk => hg.block k (by omega) (fun e => by have := hr k e.symm; omega)⟩
theorem two_text (w : World) (x y : ByteArray) (t : TypeId) : ∀ j u, ([Value.string x, Value.string y] : List Value)[j]? = some u → (w.alloc (.cells #[Value.string x, Value.string y] t)).cell? ((⟨w.heap.size, 0, none⟩ : Addr).add j) = some u := by
  intro j u hj
  match j, hj with
  | 0, hj => simp at hj; subst hj; simp [Addr.add]
  | 1, hj => simp at hj; subst hj; simp [Addr.add]

abbrev twoA : ByteArray := ⟨#[97, 116, 117, 119, 116, 119, 107, 99, 111]⟩
abbrev twoB : ByteArray := ⟨#[113, 121, 98, 117, 111, 103, 119, 108, 102]⟩
abbrev twoC : Array Value := #[.string twoA, .string twoB]
theorem two_get (j : Nat) (h : j < 2) : ∃ s : ByteArray, twoC[j]? = some (.string s) ∧ s.size ≤ 9 := by
  rcases (show j = 0 ∨ j = 1 by omega) with rfl | rfl
  · exact ⟨twoA, rfl, by decide⟩
  · exact ⟨twoB, rfl, by decide⟩

set_option maxRecDepth 100000 in
theorem drawText2_any (cb : Nat) (v : Value) (bs : List Int) (w : World) (hst : St w cb v bs) (hl : bs.length ≤ 4096) (hz : ∀ j, 0 ≤ bs.getD j 0 ∧ bs.getD j 0 ≤ 255) :
    Calls Try.prog 45 #[.pointer (some ⟨cb, 0, none⟩)] w fun e w' => ∃ s : ByteArray, e = .returned (.string s) ∧ s.size ≤ 9 ∧ St w' cb v bs ∧ w.grownBy w' (some cb) := by
  have hcb := st_lt hst
  go_enter Try.func45, Try.ntmps45
  go_wp2_with fail
  refine (once_any cb v bs 6 w hst hl hz (by omega)).mono ?_
  rintro e w2 ⟨b, rfl, hst2, hg2⟩
  have hs2 := hg2.size
  cases b with
  | true =>
    have hst2' := st_below hst2 ((Below.refl (cb + 1) w2).alloc (by omega) (.cells twoC 9))
    go_wp2_with fail
    refine (below_any cb v bs 2 _ hst2' hl hz (by omega)).mono ?_
    rintro e w3 ⟨r, rfl, hr0, hr1, _, hst3, hg3⟩
    have hr2 := hr1 (by omega)
    obtain ⟨r, rfl⟩ := Int.eq_ofNat_of_zero_le hr0
    obtain ⟨s, hzr, hs9⟩ := two_get r (by omega)
    have hcell : w3.cell? ⟨w2.heap.size, r, none⟩ = some (.string s) := by
      rw [World.cell?_of_block (w := w2.alloc (.cells twoC 9)) (hg3.block w2.heap.size (by simp) (by simp; omega)), World.cell?_alloc_at _ _ _ _ rfl]
      exact hzr
    have HG : Hid (w.grownBy w3 (some cb)) := grown_trans hg2 (grown_trans (World.grownBy_alloc w2 _ _) hg3)
    have HST : Hid (St w3 cb v bs) := hst3
    clear hst hst2 hst2' hst3 hg2 hg3 hzr hz
    go_wp2
    go_ret
    exact ⟨_, rfl, hs9, HST.out, HG.out⟩
  | false =>
    go_wp2_with fail
    refine (drawText_any cb v bs 5 w2 hst2 hl hz (by omega) (by omega)).mono ?_
    rintro e w3 ⟨s, rfl, hs5, hst3, hg3⟩
    have HG : Hid (w.grownBy w3 (some cb)) := grown_trans hg2 hg3
    have HST : Hid (St w3 cb v bs) := hst3
    clear hst hst2 hst3 hg2 hg3 hz
    go_wp2
    go_ret
    exact ⟨_, rfl, by omega, HST.out, HG.out⟩


theorem all_snoc' {acc : List ByteArray} {x : ByteArray} {B : Nat} (h : ∀ s ∈ acc, s.size ≤ B) (hx : x.size ≤ B) : ∀ s ∈ acc ++ [x], s.size ≤ B := fun s hs => by
  rcases List.mem_append.1 hs with h1 | h1
  · exact h s h1
  · rw [List.mem_singleton.1 h1]; exact hx

set_option maxHeartbeats 2000000 in
set_option maxRecDepth 100000 in
theorem drawClashes_any (va : Value) (bs : List Int) (w : World) (ha : Rd w va (cellsByteS bs)) (hl : bs.length ≤ 4096) (hz : Bytes bs) :
    Calls Try.prog 18 #[va] w fun e w' => ∃ (v : Value) (l : List ByteArray), e = .returned v ∧ l.length ≤ 10 ∧ (∀ s ∈ l, s.size ≤ 9) ∧ Rd w' v (cellsS l) ∧ Below w.heap.size w w' := by
  obtain ⟨i0, hi, hz0, hz1, hz2⟩ := info_parts Try.infoS
  have HZ : Hid (∀ j, 0 ≤ bs.getD j 0 ∧ bs.getD j 0 ≤ 255) := code_all hz
  clear hz
  go_enter Try.func18, Try.ntmps18
  go_wp2_with fail
  refine (new_any va bs w ha hl HZ.out).mono ?_
  rintro e w1 ⟨rfl, hst1, hb1, hs1⟩
  obtain ⟨cb, hcb⟩ : ∃ cb, cb = w.heap.size := ⟨_, rfl⟩
  rw [← hcb] at hst1 hs1 ⊢
  have HCB : Hid (cb = w.heap.size) := hcb
  rw [← hcb] at hb1
  have hst1' : St (w1.alloc (.cells #[] 9)) cb va bs := st_below hst1 ((Below.refl _ _).alloc (by omega) _)
  clear hcb ha
  go_wp2_with fail
  refine (below_any cb va bs 5 _ hst1' hl HZ.out (by omega)).mono ?_
  rintro e w2 ⟨n, rfl, hn0, hn1, _, hst2, hg2⟩
  have hn2 := hn1 (by omega)
  have hmade : w2.ownsRow (cb + 1) 9 1 (.slice (some ⟨w1.heap.size, 0, none⟩) 0 0) 0 (cellsS []) := owns_grown (World.ownsRow_lit w1 #[] 0 (by omega) (Nat.zero_le _) rfl) hg2 (fun k hk h => by cases hk; simp [Value.ownBlock] at h; omega)
  rw [hs1] at hmade
  have hb2 : Below cb w w2 := (hb1.alloc (by omega) (.cells #[] 9)).grown hg2 (by simp; omega) (fun k hk => by cases hk; exact Nat.le_refl _)
  have hs2 := hg2.size
  have HST2 : Hid (St w2 cb va bs) := hst2
  have hsz2 : cb < w2.heap.size := st_lt hst2
  clear hst1 hst1' hst2 hg2 hn1 hb1
  go_wp2
  go_loopw [4, 5] (fun b q wr => ∃ (m : Int) (acc : List ByteArray), q = .int .i64 m ∧ 0 ≤ m ∧ (acc.length : Int) + m ≤ 5 ∧ Hid (∀ s ∈ acc, s.size ≤ 9) ∧ wr.ownsRow (cb + 1) 9 1 b acc.length (cellsS acc) ∧ Hid (St wr cb va bs) ∧ Below cb w wr) (fun _ q _ => (intOf q).toNat)
  case atStart => exact ⟨n, [], rfl, hn0, by simp; omega, (fun s hs => absurd hs List.not_mem_nil), hmade, HST2, hb2⟩
  case round =>
    obtain ⟨m, acc, rfl, hm0, hm1, hall, ho, hst3, hb3⟩ := hrel
    have hcb3 : cb < _ := st_lt hst3.out
    clear hmade hb2 HST2 hs2 hs1 hsz2
    by_cases hlt : 0 < m
    · go_wp2_with fail
      refine (drawText2_any cb va bs _ hst3.out hl HZ.out).mono ?_
      rintro e w4 ⟨r, rfl, hr9, hst4, hg4⟩
      have ho4 := owns_grown ho hg4 (fun k hk h => by cases hk; have := (ho.lt cb h).1; omega)
      have hb4 : Below cb w w4 := hb3.grown hg4 (by omega) (fun k hk => by cases hk; exact Nat.le_refl _)
      have hs4 := hg4.size
      have HST4 : Hid (St w4 cb va bs) := hst4
      clear hst3 hst4 ho hb3 hg4
      go_wp2_with (at_builtin; refine wpList_append_own _ rfl _ _ 30 rfl (cb + 1) 9 i0 (.string ⟨#[]⟩) 1 16 Try.underlying30 hi hz0 hz1 hz2 rfl (by decide) _ _ _ rfl (ho4.alloc _) ⟨w4.heap.size, 0, none⟩ 1 1 [.string r] rfl rfl ?c1 ?c2 ?c3 ?c4 ?c5 ?_)
      case c1 => exact one_text w4 r _
      case c2 => intro u hu; rw [List.mem_singleton.1 hu]; rfl
      case c3 => unfold maxLen; omega
      case c4 => omega
      case c5 => simp; omega
      intro v5 w5 ho5 hg5 _
      have hg6 := grown_trans (World.grownBy_alloc w4 _ _) hg5
      have hb5 : Below cb w w5 := hb4.grown hg6 (by omega) (fun k hk => by have := (ho4.lt k hk).1; omega)
      have HST5 : Hid (St w5 cb va bs) := st_below HST4.out (below_own' hg6 (st_lt HST4.out) (fun g h => (ho4.lt g h).1) (by omega))
      have ho6 : w5.ownsRow (cb + 1) 9 1 v5 (acc ++ [r]).length (cellsS (acc ++ [r])) := by simpa using ho5
      have hall2 : Hid (∀ s ∈ acc ++ [r], s.size ≤ 9) := all_snoc' hall.out hr9
      clear ho5 hg5 hg6 ho4 hb4 HST4
      go_wp2
      go_roundw
      case rel => exact ⟨m - 1, acc ++ [r], by go_num, by omega, by rw [List.length_append, List.length_singleton]; omega, hall2, ho6, HST5, hb5⟩
      case measure => simp [intOf]; omega
    · go_wp2_with fail
      refine (once_any cb va bs 3 _ hst3.out hl HZ.out (by omega)).mono ?_
      rintro e w4 ⟨b, rfl, hst4, hg4⟩
      have ho4 := owns_grown ho hg4 (fun k hk h => by cases hk; have := (ho.lt cb h).1; omega)
      have hb4 : Below cb w w4 := hb3.grown hg4 (by omega) (fun k hk => by cases hk; exact Nat.le_refl _)
      have hs4 := hg4.size
      have hlen : acc.length ≤ 5 := by omega
      clear hst3 hst4 ho hb3 hg4
      cases b with
      | false =>
        have hrd := rd_owns ho4
        have HB : Hid (Below w.heap.size w w4) := by rw [← HCB.out]; exact hb4
        clear ho4
        go_wp2
        go_ret
        exact ⟨_, acc, rfl, by omega, hall.out, hrd, HB.out⟩
      | true =>
        go_wp2_with (at_builtin; refine wpList_append_own _ rfl _ _ 30 rfl (cb + 1) 9 i0 (.string ⟨#[]⟩) 1 16 Try.underlying30 hi hz0 hz1 hz2 rfl (by decide) _ _ _ rfl (ho4.alloc _) ⟨w4.heap.size, 0, none⟩ 2 2 [.string twoA, .string twoB] rfl rfl ?c1 ?c2 ?c3 ?c4 ?c5 ?_)
        case c1 => exact two_text w4 _ _ _
        case c2 => intro u hu; rcases List.mem_cons.1 hu with rfl | hu; rfl; rw [List.mem_singleton.1 hu]; rfl
        case c3 => unfold maxLen; omega
        case c4 => omega
        case c5 => simp; omega
        intro v5 w5 ho5 hg5 _
        have hg6 := grown_trans (World.grownBy_alloc w4 _ _) hg5
        have hb5 : Below cb w w5 := hb4.grown hg6 (by omega) (fun k hk => by have := (ho4.lt k hk).1; omega)
        have ho6 : w5.ownsRow (cb + 1) 9 1 v5 (acc ++ [twoA, twoB]).length (cellsS (acc ++ [twoA, twoB])) := by simpa using ho5
        have hall2 : Hid (∀ s ∈ acc ++ [twoA, twoB], s.size ≤ 9) := by
          have h := all_snoc' (all_snoc' hall.out (x := twoA) (by decide)) (x := twoB) (by decide)
          rwa [List.append_assoc] at h
        have hrd := rd_owns ho6
        have HB : Hid (Below w.heap.size w w5) := by rw [← HCB.out]; exact hb5
        have hlen2 : (acc ++ [twoA, twoB]).length ≤ 10 := by rw [List.length_append]; simp; omega
        clear ho5 hg5 hg6 ho4 hb4 ho6 hb5
        go_wp2
        go_ret
        exact ⟨_, _, rfl, hlen2, hall2.out, hrd, HB.out⟩

end Go.Proofs.Ytfoncmeplofedae
