/- CONTRACTS: the cursor over a draw: spec.l1New, l1Byte, l1Below, l1Once: whatever the code, a number in its range, and nothing that was there turns but the cursor. -/
import Derived.Test.YtfoncmeplofedaeBasis
import Derived.Laws.Bits128
import Derived.Deep.RegionWith
namespace Go.Proofs.Ytfoncmeplofedae
open Go.RowKit

theorem i64_and255 (n : Int) : bits .and .i64 n 255 = n % 256 := by
  have h127 : (BitVec.ofInt 64 255).toNat = 2 ^ 8 - 1 := by decide
  have key : (BitVec.ofInt 64 n &&& BitVec.ofInt 64 255).toNat = (n % ((2 ^ 64 : Nat) : Int)).toNat % 2 ^ 8 := by
    rw [BitVec.toNat_and, BitVec.toNat_ofInt, h127, Nat.and_two_pow_sub_one_eq_mod]
  show IntKind.i64.wrap ((BitVec.ofInt 64 n &&& BitVec.ofInt 64 255).toNat : Nat) = n % 256
  rw [key, IntKind.wrap_i64]
  omega

/-- the cursor at block cb over the bytes bs, which the slice v holds -/
def St (w : World) (cb : Nat) (v : Value) (bs : List Int) : Prop :=
  (∃ (i : Nat) (h : Int), w.heap[cb]? = some (.cells #[v, .int .i64 (i : Int), .int .i64 h] 85 (0, 0)) ∧ i ≤ bs.length) ∧
  ∃ ao cap, v = .slice ao bs.length cap ∧ (0 < bs.length → ∃ b off, ao = some ⟨b, off, none⟩ ∧ b < cb ∧ ∀ j, j < bs.length → w.cell? ⟨b, off + j, none⟩ = some (.int .u8 (bs.getD j 0)))

theorem st_lt {w : World} {cb : Nat} {v : Value} {bs : List Int} (h : St w cb v bs) : cb < w.heap.size := by
  obtain ⟨⟨i, x, hh, _⟩, _⟩ := h
  exact (Array.getElem?_eq_some_iff.1 hh).1
theorem st_below {w w' : World} {cb : Nat} {v : Value} {bs : List Int} (h : St w cb v bs) (hb : Below (cb + 1) w w') : St w' cb v bs := by
  obtain ⟨⟨i, x, hh, hi⟩, ao, cap, hv, hc⟩ := h
  refine ⟨⟨i, x, (hb.block cb (by omega)).trans hh, hi⟩, ao, cap, hv, fun hp => ?_⟩
  obtain ⟨b, off, ha, hlt, hcell⟩ := hc hp
  exact ⟨b, off, ha, hlt, fun j hj => (hb.cell (p := ⟨b, off + j, none⟩) (by show b < cb + 1; omega)).trans (hcell j hj)⟩

set_option maxRecDepth 100000 in
theorem byte_any (cb : Nat) (v : Value) (bs : List Int) (w : World) (hst : St w cb v bs) (hl : bs.length ≤ 4096) (hz : ∀ j, 0 ≤ bs.getD j 0 ∧ bs.getD j 0 ≤ 255) :
    Calls Try.prog 54 #[.pointer (some ⟨cb, 0, none⟩)] w fun e w' => ∃ r : Int, e = .returned (.int .i64 r) ∧ 0 ≤ r ∧ r ≤ 255 ∧ St w' cb v bs ∧ w.grownBy w' (some cb) := by
  have hk := i64_and255
  obtain ⟨⟨i, h, hh, hi⟩, ao, cap, rfl, hc⟩ := hst
  have c0 : w.cell? ⟨cb, 0, none⟩ = some (.slice ao bs.length cap) := by rw [cell_of_row w cb 0 _ _ (0, 0) hh]; rfl
  have c1 : w.cell? ⟨cb, 1, none⟩ = some (.int .i64 (i : Int)) := by rw [cell_of_row w cb 1 _ _ (0, 0) hh]; rfl
  have c2 : w.cell? ⟨cb, 2, none⟩ = some (.int .i64 h) := by rw [cell_of_row w cb 2 _ _ (0, 0) hh]; rfl
  have f1 : w.frozen? ⟨cb, 1, none⟩ = false := frozen_of_row w cb 1 _ _ hh
  have f2 : w.frozen? ⟨cb, 2, none⟩ = false := frozen_of_row w cb 2 _ _ hh
  have HH : Hid (w.heap[cb]? = some (.cells #[.slice ao bs.length cap, .int .i64 (i : Int), .int .i64 h] 85 (0, 0))) := hh
  have HC : Hid (0 < bs.length → ∃ b off, ao = some ⟨b, off, none⟩ ∧ b < cb ∧ ∀ j, j < bs.length → w.cell? ⟨b, off + j, none⟩ = some (.int .u8 (bs.getD j 0))) := hc
  clear hc hh
  go_enter Try.func54, Try.ntmps54
  go_wp2
  generalize wrap64 (wrap64 (h * 6364136223846793005) + 1442695040888963407) = h2
  generalize wrap64 (h * 6364136223846793005) = h1
  obtain ⟨w1, hw1⟩ : ∃ w1, w1 = w.setCell ⟨cb, 2, none⟩ (.int .i64 h2) := ⟨_, rfl⟩
  have hh1 : Hid (w1.heap[cb]? = some (.cells #[.slice ao bs.length cap, .int .i64 (i : Int), .int .i64 h2] 85 (0, 0))) := by
    rw [hw1]; exact heap_setCell_same w cb 2 _ 85 (.int .i64 h2) HH.out
  have hg1 : w.grownBy w1 (some cb) := by
    rw [hw1]; exact ⟨rfl, rfl, rfl, by simp, fun k _ hk => heap_setCell_other w ⟨cb, 2, none⟩ k _ (fun e => hk (by simp [e]))⟩
  rw [← hw1]
  have d0 : w1.cell? ⟨cb, 0, none⟩ = some (.slice ao bs.length cap) := by rw [cell_of_row w1 cb 0 _ _ (0, 0) hh1.out]; rfl
  have d1 : w1.cell? ⟨cb, 1, none⟩ = some (.int .i64 (i : Int)) := by rw [cell_of_row w1 cb 1 _ _ (0, 0) hh1.out]; rfl
  have d2 : w1.cell? ⟨cb, 2, none⟩ = some (.int .i64 h2) := by rw [cell_of_row w1 cb 2 _ _ (0, 0) hh1.out]; rfl
  have g1 : w1.frozen? ⟨cb, 1, none⟩ = false := frozen_of_row w1 cb 1 _ _ hh1.out
  have HC1 : Hid (0 < bs.length → ∃ b off, ao = some ⟨b, off, none⟩ ∧ b < cb ∧ ∀ j, j < bs.length → w1.cell? ⟨b, off + j, none⟩ = some (.int .u8 (bs.getD j 0))) := fun hp => by
    obtain ⟨b, off, ha, hlt, hcell⟩ := HC.out hp
    have hcb : cb < w.heap.size := (Array.getElem?_eq_some_iff.1 HH.out).1
    exact ⟨b, off, ha, hlt, fun j hj => (World.cell?_of_block (w := w) (hg1.block b (by omega) (by simp; omega))).trans (hcell j hj)⟩
  clear hw1 c0 c1 c2 f1 f2
  go_quiet (fail)
  go_wp2
  go_quiet (fail)
  by_cases hlt : (i : Int) < (bs.length : Int)
  · obtain ⟨b, off, rfl, hbc, hcell⟩ := HC1.out (by omega)
    have hci := hcell i (by omega)
    have hx := hz i
    obtain ⟨x, hxx⟩ : ∃ x, x = bs.getD i 0 := ⟨_, rfl⟩
    rw [← hxx] at hci hx
    obtain ⟨hx0, hx1⟩ := hx
    clear hxx hcell
    go_wp2
    go_quiet (fail)
    go_wp2
    go_ret
    refine ⟨_, rfl, by omega, by omega, ?_, ?_⟩
    · refine ⟨⟨i + 1, h2, ?_, by omega⟩, _, cap, rfl, fun hp => ?_⟩
      · rw [show ((i + 1 : Nat) : Int) = (i : Int) + 1 by omega]
        exact heap_setCell_same (w1.drewN _) cb 1 _ 85 (.int .i64 ((i : Int) + 1)) hh1.out
      · obtain ⟨b', off', ha, hlt', hcell'⟩ := HC1.out hp
        exact ⟨b', off', ha, hlt', fun j hj => (World.cell?_setCell_other _ _ _ _ (by simp only [ne_eq, Addr.mk.injEq]; omega)).trans (hcell' j hj)⟩
    · exact grown_trans hg1 ⟨rfl, rfl, rfl, by simp, fun k _ hk => heap_setCell_other (w1.drewN _) ⟨cb, 1, none⟩ k _ (fun e => hk (by simp [e]))⟩
  · go_wp2
    go_ret
    refine ⟨_, rfl, by omega, by omega, ⟨⟨i, h2, hh1.out, by omega⟩, ao, cap, rfl, HC1.out⟩, grown_trans hg1 ⟨rfl, rfl, rfl, Nat.le_refl _, fun _ _ _ => rfl⟩⟩

set_option maxRecDepth 100000 in
theorem new_any (va : Value) (bs : List Int) (w : World) (ha : Rd w va (cellsByteS bs)) (hl : bs.length ≤ 4096) (hz : ∀ j, 0 ≤ bs.getD j 0 ∧ bs.getD j 0 ≤ 255) :
    Calls Try.prog 25 #[va] w fun e w' => e = .returned (.pointer (some ⟨w.heap.size, 0, none⟩)) ∧ St w' w.heap.size va bs ∧ Below w.heap.size w w' ∧ w'.heap.size = w.heap.size + 1 := by
  have hla : (cellsByteS bs).length = bs.length := by simp
  have hfin : ∀ h : Int, ∀ v : Value, Rd w v (cellsByteS bs) → St (w.alloc (.cells #[v, .int .i64 0, .int .i64 h] 85)) w.heap.size v bs := fun h v hv => by
    obtain ⟨ao, cap, rfl, hcap, hx⟩ := hv
    refine ⟨⟨0, h, heap_alloc_new w _, Nat.zero_le _⟩, ao, cap, by rw [hla], fun hp => ?_⟩
    obtain ⟨b, off, h1, h2, h3⟩ := hx (by intro e; have := congrArg List.length e; rw [hla] at this; simp at this; rw [this] at hp; simp at hp)
    refine ⟨b, off, h1, h2, fun j hj => ?_⟩
    rw [World.cell?_alloc_past _ _ _ h2, h3 j (by rw [hla]; exact hj), ints_get _ _ j hj]
  have hbf : ∀ h : Int, ∀ v : Value, Below w.heap.size w (w.alloc (.cells #[v, .int .i64 0, .int .i64 h] 85)) := fun h v => (Below.refl _ _).alloc (Nat.le_refl _) _
  have hfa := fun h => hfin h va ha
  rcases rd_cases ha with ⟨h0, ao, cap, rfl⟩ | ⟨hp, b, off, cap, rfl, _, hlt, hc⟩
  · have hx : bs = [] := by simpa using h0
    subst hx
    have HF : Hid (∀ h : Int, St (w.alloc (.cells #[.slice ao 0 cap, .int .i64 0, .int .i64 h] 85)) w.heap.size (.slice ao 0 cap) []) := hfa
    have HB : Hid (∀ h : Int, ∀ v : Value, Below w.heap.size w (w.alloc (.cells #[v, .int .i64 0, .int .i64 h] 85))) := hbf
    clear hfin hfa hbf ha
    go_enter Try.func25, Try.ntmps25
    go_wp2
    refine wp_loop_rounds 1 ?_
    rw [rounds_succ]
    go_wp2
    go_ret
    exact ⟨rfl, HF.out _, HB.out _ _, by simp⟩
  · rw [hla] at hc hp hfa ⊢
    have HF : Hid (∀ h : Int, St (w.alloc (.cells #[.slice (some ⟨b, off, none⟩) bs.length cap, .int .i64 0, .int .i64 h] 85)) w.heap.size (.slice (some ⟨b, off, none⟩) bs.length cap) bs) := hfa
    have HB : Hid (∀ h : Int, ∀ v : Value, Below w.heap.size w (w.alloc (.cells #[v, .int .i64 0, .int .i64 h] 85))) := hbf
    have HA : Hid (∀ j, j < bs.length → w.cell? ⟨b, off + j, none⟩ = some (.int .u8 (bs.getD j 0))) := fun j hj => (hc j hj).trans (ints_get _ bs j hj)
    have HZ : Hid (∀ j, 0 ≤ bs.getD j 0 ∧ bs.getD j 0 ≤ 255) := hz
    clear hfin hfa hbf ha hc hz hla
    go_enter Try.func25, Try.ntmps25
    go_wp2
    go_loop [3, 4] (fun q i => ∃ (k : Nat) (h : Int), k ≤ bs.length ∧ q = .int .i64 h ∧ i = .int .i64 k) (fun _ i => bs.length - (intOf i).toNat)
    case atStart => exact ⟨0, _, Nat.zero_le _, rfl, rfl⟩
    case round =>
      obtain ⟨k, h, hk, rfl, rfl⟩ := hrel
      by_cases hltk : k < bs.length
      · have hcell := HA.out k hltk
        have hx := HZ.out k
        obtain ⟨x, hxx⟩ : ∃ x, x = bs.getD k 0 := ⟨_, rfl⟩
        rw [← hxx] at hcell hx
        obtain ⟨hx0, hx1⟩ := hx
        clear hxx
        go_wp2
        go_round
        case rel => exact ⟨k + 1, _, by omega, rfl, by go_num⟩
        case measure => simp [intOf]; omega
      · go_wp2
        go_ret
        exact ⟨rfl, HF.out _, HB.out _ _, by simp⟩

/-- what a draw below n gives -/
theorem below_any (cb : Nat) (v : Value) (bs : List Int) (n : Int) (w : World) (hst : St w cb v bs) (hl : bs.length ≤ 4096) (hz : ∀ j, 0 ≤ bs.getD j 0 ∧ bs.getD j 0 ≤ 255) (hn : n ≤ 4611686018427387903) :
    Calls Try.prog 44 #[.pointer (some ⟨cb, 0, none⟩), .int .i64 n] w fun e w' => ∃ r : Int, e = .returned (.int .i64 r) ∧ 0 ≤ r ∧ (0 < n → r < n) ∧ (n ≤ 0 → r = 0) ∧ St w' cb v bs ∧ w.grownBy w' (some cb) := by
  by_cases h0 : n ≤ 0
  · go_enter Try.func44, Try.ntmps44
    go_wp2
    go_ret
    exact ⟨0, rfl, by omega, by omega, fun _ => rfl, hst, World.grownBy.refl _ _⟩
  · by_cases h1 : n ≤ 256
    · go_enter Try.func44, Try.ntmps44
      go_wp2_with fail
      refine (byte_any cb v bs w hst hl hz).mono ?_
      rintro e w1 ⟨r, rfl, hr0, hr1, hst1, hg1⟩
      clear hst hz
      have hnz : (n == 0) = false := beq_eq_false_iff_ne.2 (by omega)
      go_wp2
      go_ret
      exact ⟨r % n, rfl, Int.emod_nonneg _ (by omega), fun _ => Int.emod_lt_of_pos _ (by omega), fun h => absurd h (by omega), hst1, hg1⟩
    · go_enter Try.func44, Try.ntmps44
      go_wp2_with fail
      refine (byte_any cb v bs w hst hl hz).mono ?_
      rintro e w1 ⟨x, rfl, hx0, hx1, hst1, hg1⟩
      go_wp2_with fail
      refine (byte_any cb v bs w1 hst1 hl hz).mono ?_
      rintro e w2 ⟨y, rfl, hy0, hy1, hst2, hg2⟩
      go_wp2_with fail
      refine (byte_any cb v bs w2 hst2 hl hz).mono ?_
      rintro e w3 ⟨z, rfl, hz0, hz1, hst3, hg3⟩
      go_wp2_with fail
      refine (byte_any cb v bs w3 hst3 hl hz).mono ?_
      rintro e w4 ⟨u, rfl, hu0, hu1, hst4, hg4⟩
      have hg := grown_trans hg1 (grown_trans hg2 (grown_trans hg3 hg4))
      clear hst hst1 hst2 hst3 hz hg1 hg2 hg3 hg4
      have hnz : (n == 0) = false := beq_eq_false_iff_ne.2 (by omega)
      go_wp2
      go_ret
      exact ⟨_, rfl, Int.emod_nonneg _ (by omega), fun _ => Int.emod_lt_of_pos _ (by omega), fun h => absurd h (by omega), hst4, hg⟩

theorem once_any (cb : Nat) (v : Value) (bs : List Int) (n : Int) (w : World) (hst : St w cb v bs) (hl : bs.length ≤ 4096) (hz : ∀ j, 0 ≤ bs.getD j 0 ∧ bs.getD j 0 ≤ 255) (hn : n ≤ 4611686018427387903) :
    Calls Try.prog 27 #[.pointer (some ⟨cb, 0, none⟩), .int .i64 n] w fun e w' => ∃ r : Bool, e = .returned (.bool r) ∧ St w' cb v bs ∧ w.grownBy w' (some cb) := by
  go_enter Try.func27, Try.ntmps27
  go_wp2_with fail
  refine (below_any cb v bs n w hst hl hz hn).mono ?_
  rintro e w1 ⟨r, rfl, _, _, _, hst1, hg1⟩
  clear hst hz
  go_wp2
  go_ret
  exact ⟨_, rfl, hst1, hg1⟩

set_option maxHeartbeats 1000000 in
set_option maxRecDepth 100000 in
theorem drawText_any (cb : Nat) (v : Value) (bs : List Int) (most : Int) (w : World) (hst : St w cb v bs) (hl : bs.length ≤ 4096) (hz : ∀ j, 0 ≤ bs.getD j 0 ∧ bs.getD j 0 ≤ 255) (h0 : 0 ≤ most) (h1 : most ≤ 10000) :
    Calls Try.prog 28 #[.pointer (some ⟨cb, 0, none⟩), .int .i64 most] w fun e w' => ∃ s : ByteArray, e = .returned (.string s) ∧ (s.size : Int) ≤ most ∧ St w' cb v bs ∧ w.grownBy w' (some cb) := by
  obtain ⟨i0, hi, hz0, hz1, hz2⟩ := info_parts Try.infoB
  have hcb := st_lt hst
  go_enter Try.func28, Try.ntmps28
  go_wp2_with fail
  have hst0 : St (w.alloc (.cells #[] 5)) cb v bs := st_below hst ((Below.refl _ _).alloc (by omega) _)
  refine (below_any cb v bs (most + 1) _ hst0 hl hz (by omega)).mono ?_
  rintro e w1 ⟨n, rfl, hn0, hn1, _, hst1, hg1⟩
  have hg1w : w.grownBy w1 (some cb) := grown_trans (World.grownBy_alloc w _ _) hg1
  have hmade : w1.ownsRow w.heap.size 5 1 (.slice (some ⟨w.heap.size, 0, none⟩) 0 0) 0 (cellsByteS []) := owns_grown (World.ownsRow_lit w #[] 0 (Nat.le_refl _) (Nat.zero_le _) rfl) hg1 (fun k hk h => by cases hk; simp [Value.ownBlock] at h; omega)
  have hnm : n ≤ most := by have := hn1 (by omega); omega
  have HST1 : Hid (St w1 cb v bs) := hst1
  have HZ : Hid (∀ j, 0 ≤ bs.getD j 0 ∧ bs.getD j 0 ≤ 255) := hz
  clear hst hst0 hst1 hn1 hg1 hz
  go_wp2
  go_loopw [5, 6] (fun b q wr => ∃ (m : Int) (acc : List Int), q = .int .i64 m ∧ 0 ≤ m ∧ (acc.length : Int) + m ≤ most ∧ Hid (Bytes acc) ∧ wr.ownsRow w.heap.size 5 1 b acc.length (cellsByteS acc) ∧ Hid (St wr cb v bs) ∧ w.grownBy wr (some cb)) (fun _ q _ => (intOf q).toNat)
  case atStart => exact ⟨n, [], rfl, hn0, by simp; omega, (fun x hx => absurd hx List.not_mem_nil), hmade, HST1, hg1w⟩
  case round =>
    obtain ⟨m, acc, rfl, hm0, hm1, hby, ho, hst2, hg2⟩ := hrel
    have hs := hg2.size
    clear hmade hg1w
    by_cases hlt : 0 < m
    · go_wp2_with fail
      refine (below_any cb v bs 3 _ hst2.out hl HZ.out (by omega)).mono ?_
      rintro e w2 ⟨r, rfl, hr0, hr1, _, hst3, hg3⟩
      have hr2 := hr1 (by omega)
      have ho2 := owns_grown ho hg3 (fun k hk h => by cases hk; have := (ho.lt cb h).1; omega)
      have hg3w := grown_trans hg2 hg3
      have hs3 := hg3w.size
      have HST3 : Hid (St w2 cb v bs) := hst3
      clear hst3 hr1 ho hg2 hg3 hst2
      go_wp2_with (at_builtin; refine wpList_append_own _ rfl _ _ 22 rfl w.heap.size 5 i0 (.int .u8 0) 1 1 Try.underlying22 hi hz0 hz1 hz2 rfl (by decide) _ _ _ rfl (ho2.alloc _) ⟨w2.heap.size, 0, none⟩ 1 1 [.int .u8 (97 + r)] rfl rfl ?c1 ?c2 ?c3 ?c4 ?c5 ?_)
      case c1 => exact one_cell w2 .u8 _ _
      case c2 => exact ints_oneCell .u8 [97 + r]
      case c3 => unfold maxLen; omega
      case c4 => omega
      case c5 => simp; omega
      intro v3 w3 ho3 hg4 _
      have hg5 := grown_trans (World.grownBy_alloc w2 _ _) hg4
      have hg6 : w.grownBy w3 (some cb) := grown_own hg3w hg5 (fun g h => (ho2.lt g h).1)
      have hb3 : Below (cb + 1) w2 w3 := ⟨hg5.os, hg5.tape, hg5.output, hg5.size, fun k hk => hg5.block k (by omega) (fun e => by have := (ho2.lt k e.symm).1; omega)⟩
      have HST4 : Hid (St w3 cb v bs) := st_below HST3.out hb3
      have ho4 : w3.ownsRow w.heap.size 5 1 v3 (acc ++ [97 + r]).length (cellsByteS (acc ++ [97 + r])) := by simpa using ho3
      have hby2 : Hid (Bytes (acc ++ [97 + r])) := bytes_append hby.out (fun x hx => by rw [List.mem_singleton.1 hx]; omega)
      clear ho3 hg4 hg5 ho2 hg3w hb3
      go_wp2
      go_roundw
      case rel => exact ⟨m - 1, acc ++ [97 + r], by go_num, by omega, by rw [List.length_append, List.length_singleton]; omega, hby2, ho4, HST4, hg6⟩
      case measure => simp [intOf]; omega
    · go_wp2_with fail
      refine (once_any cb v bs 6 _ hst2.out hl HZ.out (by omega)).mono ?_
      rintro e w2 ⟨r, rfl, hst3, hg3⟩
      have ho2 := owns_grown ho hg3 (fun k hk h => by cases hk; have := (ho.lt cb h).1; omega)
      have hg3w := grown_trans hg2 hg3
      have hs3 := hg3w.size
      have HST3 : Hid (St w2 cb v bs) := hst3
      have hlen : (acc.length : Int) ≤ most := by omega
      clear hst3 ho hg2 hg3 hst2
      by_cases hbr : r = true ∧ 0 < (acc.length : Int)
      · obtain ⟨rfl, hpos⟩ := hbr
        obtain ⟨g, c2, rfl, hgg⟩ := owns_head ho2 (by omega)
        go_wp2_with fail
        refine (below_any cb v bs (acc.length : Int) _ HST3.out hl HZ.out (by omega)).mono ?_
        rintro e w4 ⟨q, rfl, hq0, hq1, _, hst4, hg4⟩
        have hq2 := hq1 hpos
        have ho4 := owns_grown ho2 hg4 (fun k hk h => by cases hk; have := (ho2.lt cb h).1; omega)
        have hg4w := grown_trans hg3w hg4
        clear hq1 ho2 hg3w hg4 HST3
        go_wp2_with fail
        refine (byte_any cb v bs _ hst4 hl HZ.out).mono ?_
        rintro e w5 ⟨y, rfl, hy0, hy1, hst5, hg5⟩
        have ho5 := owns_grown ho4 hg5 (fun k hk h => by cases hk; have := (ho4.lt cb h).1; omega)
        have hg5w := grown_trans hg4w hg5
        obtain ⟨j, rfl⟩ := Int.eq_ofNat_of_zero_le hq0
        have hcell := (ho5.cellAt j (by omega)).trans (ints_get .u8 acc j (by omega))
        have hf := ho5.frozenAt j
        have hstr := ho5.stored j (.int .u8 y)
        have e : (cellsByteS acc).set j (.int .u8 y) = cellsByteS (acc.set j y) := List.map_set.symm
        rw [e] at hstr
        obtain ⟨ho6, hg6⟩ := hstr
        have hge : w.heap.size ≤ g := (ho5.lt g rfl).1
        have hb6 : Below (cb + 1) w5 (w5.setCell ⟨g, j, none⟩ (.int .u8 y)) := (Below.refl _ _).setCell (by show cb + 1 ≤ g; omega) _
        have HST6 : Hid (St (w5.setCell ⟨g, j, none⟩ (.int .u8 y)) cb v bs) := st_below hst5 hb6
        have hg7 : w.grownBy (w5.setCell ⟨g, j, none⟩ (.int .u8 y)) (some cb) := grown_own hg5w hg6 (fun g' h => by cases h; exact hge)
        have hby6 : Bytes (acc.set j y) := fun x hx => by
          rcases List.mem_or_eq_of_mem_set hx with h | h
          · exact hby.out x h
          · rw [h]; exact ⟨hy0, hy1⟩
        have hl6 : (acc.set j y).length = acc.length := List.length_set
        rw [← hl6] at ho6
        have hs6 := str_own ho6 hby6
        rw [hl6] at hs6
        have hsz : ((asB (acc.set j y)).size : Int) ≤ most := by rw [asB_size, hl6]; exact hlen
        obtain ⟨u, hu⟩ : ∃ u, u = Value.int .u8 (acc.getD j 0) := ⟨_, rfl⟩
        rw [← hu] at hcell
        clear hu ho6 ho5 ho4 hst4 hst5 hg4w hg5w hg5 hg6 hb6 hby6 hl6
        go_wp2
        go_ret
        exact ⟨_, rfl, hsz, HST6.out, hg7⟩
      · have hsz : ((asB acc).size : Int) ≤ most := by rw [asB_size]; exact hlen
        have hs6 := str_own ho2 hby.out
        by_cases hr : r = true
        · have hz2 : ¬ 0 < (acc.length : Int) := fun h => hbr ⟨hr, h⟩
          have hpd : decide (0 < (acc.length : Int)) = false := decide_eq_false hz2
          subst hr
          obtain ⟨ao, cap, rfl⟩ := owns_slice ho2
          clear hbr ho2
          go_wp2
          go_ret
          exact ⟨_, rfl, hsz, HST3.out, hg3w⟩
        · have hr2 : r = false := by simpa using hr
          subst hr2
          obtain ⟨ao, cap, rfl⟩ := owns_slice ho2
          clear hbr hr ho2
          go_wp2
          go_ret
          exact ⟨_, rfl, hsz, HST3.out, hg3w⟩

end Go.Proofs.Ytfoncmeplofedae
