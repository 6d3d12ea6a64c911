/- CONTRACTS: the draws of chapter 5 that are tried: counts, lengths, codes, texts. -/
import Derived.Test.YtiflpnmkclcimabDrawsL
import Derived.Test.YtiflpnmkclcimabCodesS
import Derived.Test.YtiflpnmkclcimabDecodedS
import Derived.Deep.Cut
import Derived.Deep.CutRange
namespace Go.Proofs.Ytiflpnmkclcimab
open Go.RowKit
set_option linter.unusedVariables false

theorem owns_mono5 {w : World} {b b' : Nat} {e : TypeId} {size : Nat} {v : Value} {n : Nat} {xs : List Value} (h : w.ownsRow b e size v n xs) (hb : b' ≤ b) : w.ownsRow b' e size v n xs := by
  obtain ⟨h1, h2⟩ := h
  refine ⟨h1, ?_⟩
  rcases h2 with h2 | ⟨g, cp, cur, hv, hg, h3⟩
  · exact .inl h2
  · exact .inr ⟨g, cp, cur, hv, Nat.le_trans hb hg, h3⟩
theorem codesT_sizes (l : List Int) : (codesT l).length ≤ 32 ∧ ∀ s ∈ codesT l, s.size ≤ 40 := by
  unfold codesT
  split
  · rename_i h
    unfold kraftB at h
    rw [Bool.and_eq_true] at h
    obtain ⟨h1, h2⟩ := allIn_out h.1
    refine ⟨by simpa [codesI] using h1.2, fun s hs => ?_⟩
    unfold codesI at hs
    obtain ⟨i, hi, rfl⟩ := List.mem_map.1 hs
    unfold codeB
    rw [asB_size, Huff.bitsF_len]
    have := h2 i (List.mem_range.1 hi)
    unfold lenN
    omega
  · exact ⟨by simp, fun s hs => by cases hs⟩
set_option maxHeartbeats 2000000 in
set_option maxRecDepth 100000 in
theorem drawText5_any (cb : Nat) (v : Value) (bs : List Int) (n : Nat) (w : World) (hst : St w cb v bs) (hl : bs.length ≤ 4096) (hz : ∀ j, 0 ≤ bs.getD j 0 ∧ bs.getD j 0 ≤ 255) (hn : n ≤ 32) :
    Calls Try.prog 64 #[.pointer (some ⟨cb, 0, none⟩), .int .i64 (n : Int)] w fun e w' => ∃ s : ByteArray, e = .returned (.string s) ∧ s.size ≤ 7 ∧ St w' cb v bs ∧ w.grownBy w' (some cb) := by
  obtain ⟨i0, hi, hz0, hz1, hz2⟩ := info_parts Try.infoB
  have hcb := st_lt hst
  have hst0 : St (w.alloc (.cells #[] 5)) cb v bs := st_below hst ((Below.refl _ _).alloc (by omega) _)
  have HZ : Hid (∀ j, 0 ≤ bs.getD j 0 ∧ bs.getD j 0 ≤ 255) := hz
  have hmax : ∃ mx : Int, mx = max 1 (n : Int) ∧ 1 ≤ mx ∧ mx ≤ 32 := ⟨_, rfl, by omega, by omega⟩
  obtain ⟨mx, hmx, hmx1, hmx2⟩ := hmax
  have HMX := Lib.hid hmx.symm
  clear hz hmx
  go_enter Try.func64, Try.ntmps64
  go_wp2_with fail
  refine (below_any cb v bs 8 _ hst0 hl HZ.out (by omega)).mono ?_
  rintro e w1 ⟨m0, rfl, hn0, hn1, _, hst1, hg1⟩
  have hg1w : w.grownBy w1 (some cb) := grown_trans (World.grownBy_alloc w _ _) hg1
  have hmade : w1.ownsRow w.heap.size 5 1 (.slice (some ⟨w.heap.size, 0, none⟩) 0 0) 0 (cellsByteS []) := owns_grown (World.ownsRow_lit w #[] 0 (Nat.le_refl _) (Nat.zero_le _) rfl) hg1 (fun k hk h => by cases hk; simp [Value.ownBlock] at h; omega)
  have hnm : m0 ≤ 7 := by have := hn1 (by omega); omega
  have HST1 : Hid (St w1 cb v bs) := hst1
  clear hst hst0 hst1 hn1 hg1
  go_wp2
  go_loopw [5, 6] (fun b q wr => ∃ (m : Int) (acc : List Int), q = .int .i64 m ∧ 0 ≤ m ∧ (acc.length : Int) + m ≤ 7 ∧ Hid (Bytes acc) ∧ wr.ownsRow w.heap.size 5 1 b acc.length (cellsByteS acc) ∧ Hid (St wr cb v bs) ∧ w.grownBy wr (some cb)) (fun _ q _ => (intOf q).toNat)
  case atStart => exact ⟨m0, [], rfl, hn0, by simp; omega, (fun x hx => absurd hx List.not_mem_nil), hmade, HST1, hg1w⟩
  case round =>
    obtain ⟨m, acc, rfl, hm0, hm1, hby, ho, hst2, hg2⟩ := hrel
    have hs := hg2.size
    clear hmade hg1w
    by_cases hlt : 0 < m
    · go_wp2_with fail
      refine (l1Max5_any _ _ _).mono ?_
      rintro e u ⟨rfl, hu⟩
      replace hu := hu.symm
      subst hu
      rw [HMX.out]
      go_wp2_with fail
      refine (below_any cb v bs mx _ hst2.out hl HZ.out (by omega)).mono ?_
      rintro e w2 ⟨r, rfl, hr0, hr1, _, hst3, hg3⟩
      have hr2 := hr1 (by omega)
      have ho2 := owns_grown ho hg3 (fun k hk h => by cases hk; have := (ho.lt cb h).1; omega)
      have hg3w := grown_trans hg2 hg3
      have hs3 := hg3w.size
      have HST3 : Hid (St w2 cb v bs) := hst3
      have hr256 : r % 256 = r := by omega
      clear hst3 hr1 ho hg2 hg3 hst2
      go_wp2_with (at_builtin; refine wpList_append_own _ rfl _ _ 22 rfl w.heap.size 5 i0 (.int .u8 0) 1 1 Try.underlying22 hi hz0 hz1 hz2 rfl (by decide) _ _ _ rfl (ho2.alloc _) ⟨w2.heap.size, 0, none⟩ 1 1 [.int .u8 r] rfl rfl ?c1 ?c2 ?c3 ?c4 ?c5 ?_)
      case c1 => exact one_cell w2 .u8 _ _
      case c2 => exact ints_oneCell .u8 [r]
      case c3 => unfold maxLen; omega
      case c4 => omega
      case c5 => simp; omega
      intro v3 w3 ho3 hg4 _
      have hg5 := grown_trans (World.grownBy_alloc w2 _ _) hg4
      have hg6 : w.grownBy w3 (some cb) := grown_own hg3w hg5 (fun g h => (ho2.lt g h).1)
      have HST4 : Hid (St w3 cb v bs) := st_below HST3.out (below_own5 hg5 (st_lt HST3.out) (fun g h => (ho2.lt g h).1) hcb)
      have ho4 : w3.ownsRow w.heap.size 5 1 v3 (acc ++ [r]).length (cellsByteS (acc ++ [r])) := by simpa using ho3
      have hby2 : Hid (Bytes (acc ++ [r])) := bytes_append hby.out (fun x hx => by rw [List.mem_singleton.1 hx]; omega)
      clear ho3 hg4 hg5 ho2 hg3w
      go_wp2
      go_roundw
      case rel => exact ⟨m - 1, acc ++ [r], by go_num, by omega, by rw [List.length_append, List.length_singleton]; omega, hby2, ho4, HST4, hg6⟩
      case measure => simp [intOf]; omega
    · have hstr := str_own ho hby.out
      have hlen : (asB acc).size ≤ 7 := by rw [asB_size]; omega
      generalize asB acc = t at hstr hlen
      clear ho
      go_wp2
      go_ret
      exact ⟨t, rfl, hlen, hst2.out, hg2⟩
set_option maxRecDepth 100000 in
theorem drawLengths_any (va : Value) (bs : List Int) (w : World) (ha : Rd w va (cellsByteS bs)) (hl : bs.length ≤ 4096) (hz : Bytes bs) :
    Calls Try.prog 16 #[va] w fun e w' => ∃ (v' : Value) (xs : List Int), e = .returned v' ∧ xs.length ≤ 40 ∧ w'.ownsRow w.heap.size 2 1 v' xs.length (cellsInt64S xs) ∧ Below w.heap.size w w' := by
  go_enter Try.func16, Try.ntmps16
  go_wp2_with fail
  refine (new_any va bs w ha hl (codeR hz)).mono ?_
  rintro e w1 ⟨rfl, hst1, hb1, hs1⟩
  go_wp2_with fail
  refine (draw5_any w.heap.size va bs w1 hst1 hl (codeR hz)).mono ?_
  rintro e w3 ⟨v3, xs, rfl, hx3, ho3, hst3, hg3⟩
  have hb3 : Below w.heap.size w w3 := hb1.grown hg3 hb1.size (fun k hk => by cases hk; exact Nat.le_refl _)
  have ho4 := owns_mono5 ho3 (show w.heap.size ≤ w1.heap.size by omega)
  clear hst1 hst3 hg3 hb1 ha hz ho3
  go_wp2
  go_ret
  exact ⟨_, xs, rfl, hx3, ho4, hb3⟩
set_option maxRecDepth 100000 in
theorem drawKraft_any (va : Value) (bs : List Int) (w : World) (ha : Rd w va (cellsByteS bs)) (hl : bs.length ≤ 4096) (hz : Bytes bs) :
    Calls Try.prog 19 #[va] w fun e w' => ∃ (v' : Value) (xs : List Int), e = .returned v' ∧ xs.length ≤ 32 ∧ w'.ownsRow w.heap.size 2 1 v' xs.length (cellsInt64S xs) ∧ Below w.heap.size w w' := by
  go_enter Try.func19, Try.ntmps19
  go_wp2_with fail
  refine (new_any va bs w ha hl (codeR hz)).mono ?_
  rintro e w1 ⟨rfl, hst1, hb1, hs1⟩
  go_wp2_with fail
  refine (drawLens_any w.heap.size va bs w1 hst1 hl (codeR hz)).mono ?_
  rintro e w3 ⟨v3, xs, rfl, hx3, ho3, hst3, hg3⟩
  have hb3 : Below w.heap.size w w3 := hb1.grown hg3 hb1.size (fun k hk => by cases hk; exact Nat.le_refl _)
  have ho4 := owns_mono5 ho3 (show w.heap.size ≤ w1.heap.size by omega)
  clear hst1 hst3 hg3 hb1 ha hz ho3
  go_wp2
  go_ret
  exact ⟨_, xs, rfl, hx3, ho4, hb3⟩
set_option maxRecDepth 100000 in
theorem drawCodes_any (va : Value) (bs : List Int) (w : World) (ha : Rd w va (cellsByteS bs)) (hl : bs.length ≤ 4096) (hz : Bytes bs) :
    Calls Try.prog 26 #[va] w fun e w' => ∃ (v' : Value) (xs : List Int), e = .returned v' ∧ xs.length ≤ 32 ∧ w'.ownsRow w.heap.size 2 1 v' xs.length (cellsInt64S xs) ∧ Below w.heap.size w w' := by
  go_enter Try.func26, Try.ntmps26
  go_wp2_with fail
  refine (drawKraft_any va bs w ha hl hz).mono ?_
  rintro e w3 ⟨v3, xs, rfl, hx3, ho3, hb3⟩
  clear ha hz
  go_wp2
  go_ret
  exact ⟨_, xs, rfl, hx3, ho3, hb3⟩
set_option maxRecDepth 100000 in
theorem drawCost_any (va : Value) (bs : List Int) (w : World) (ha : Rd w va (cellsByteS bs)) (hl : bs.length ≤ 4096) (hz : Bytes bs) :
    Calls Try.prog 18 #[va] w fun e w' => ∃ (v1 v2 : Value) (xs ys : List Int), e = .returned (.tuple #[v1, v2]) ∧ xs.length ≤ 40 ∧ ys.length ≤ 32 ∧ w'.ownsRow w.heap.size 2 1 v1 xs.length (cellsInt64S xs) ∧ w'.ownsRow w.heap.size 2 1 v2 ys.length (cellsInt64S ys) ∧ Below w.heap.size w w' := by
  have HZ := Lib.hid (codeR hz)
  go_enter Try.func18, Try.ntmps18
  go_wp2_with fail
  refine (new_any va bs w ha hl HZ.out).mono ?_
  rintro e w1 ⟨rfl, hst1, hb1, hs1⟩
  go_wp2_with fail
  refine (draw5_any w.heap.size va bs w1 hst1 hl HZ.out).mono ?_
  rintro e w3 ⟨v3, xs, rfl, hx3, ho3, hst3, hg3⟩
  have hb3 : Below w.heap.size w w3 := hb1.grown hg3 hb1.size (fun k hk => by cases hk; exact Nat.le_refl _)
  have hs3 := hg3.size
  clear hst1 hg3 hb1 ha hz
  go_wp2_with fail
  refine (specLengths_any v3 xs w3 (rd_owns ho3) (by omega)).mono ?_
  rintro e w4 ⟨v4, rfl, ho4, hb4⟩
  have hL := lengthsT_len xs
  generalize lengthsT xs = L at ho4 hL
  have hst4 : St w4 w.heap.size va bs := st_below hst3 (hb4.mono (by omega))
  have ho34 := owns_below ho3 hb4
  have hb4w := hb3.trans (hb4.mono hb3.size)
  have hs4 := hb4.size
  clear ho3 hst3 hb3 hb4
  go_wp2_with fail
  refine (once_any w.heap.size va bs 3 _ hst4 hl HZ.out (by omega)).mono ?_
  rintro e w5 ⟨b, rfl, hst5, hg5⟩
  have ho35 := owns_grown ho34 hg5 (fun k hk h => by cases hk; have := (ho34.lt _ h).1; omega)
  have ho45 := owns_grown ho4 hg5 (fun k hk h => by cases hk; have := (ho4.lt _ h).1; omega)
  have hb5 : Below w.heap.size w w5 := hb4w.grown hg5 hb4w.size (fun k hk => by cases hk; exact Nat.le_refl _)
  have hs5 := hg5.size
  have HST5 := Lib.hid hst5
  clear ho34 ho4 hst4 hst5 hg5 hb4w
  cases b with
  | false =>
    have o1 := owns_mono5 ho35 (show w.heap.size ≤ w1.heap.size by omega)
    have o2 := owns_mono5 ho45 (show w.heap.size ≤ w3.heap.size by omega)
    clear ho35 ho45
    go_wp2
    go_ret2
    exact ⟨_, _, xs, L, rfl, hx3, hL, o1, o2, hb5⟩
  | true =>
    go_wp2_with fail
    refine (drawLens_any w.heap.size va bs w5 HST5.out hl HZ.out).mono ?_
    rintro e w6 ⟨v6, ys, rfl, hy6, ho6, _, hg6⟩
    have ho36 := owns_grown ho35 hg6 (fun k hk h => by cases hk; have := (ho35.lt _ h).1; omega)
    have hb6 : Below w.heap.size w w6 := hb5.grown hg6 hb5.size (fun k hk => by cases hk; exact Nat.le_refl _)
    have o1 := owns_mono5 ho36 (show w.heap.size ≤ w1.heap.size by omega)
    have o2 := owns_mono5 ho6 (show w.heap.size ≤ w5.heap.size by omega)
    clear ho35 ho45 ho36 ho6 hg6
    go_wp2
    go_ret2
    exact ⟨_, _, xs, ys, rfl, hx3, hy6, o1, o2, hb6⟩
set_option maxHeartbeats 1000000 in
set_option maxRecDepth 100000 in
theorem drawCoded_any (va : Value) (bs : List Int) (w : World) (ha : Rd w va (cellsByteS bs)) (hl : bs.length ≤ 4096) (hz : Bytes bs) :
    Calls Try.prog 28 #[va] w fun e w' => ∃ (s : ByteArray) (v : Value) (cs : List ByteArray), e = .returned (.tuple #[.string s, v]) ∧ s.size ≤ 8 ∧ cs.length ≤ 32 ∧ (∀ c ∈ cs, c.size ≤ 40) ∧ w'.ownsRow w.heap.size 9 1 v cs.length (cellsS cs) ∧ Below w.heap.size w w' := by
  have HZ := Lib.hid (codeR hz)
  go_enter Try.func28, Try.ntmps28
  go_wp2_with fail
  refine (new_any va bs w ha hl HZ.out).mono ?_
  rintro e w1 ⟨rfl, hst1, hb1, hs1⟩
  go_wp2_with fail
  refine (drawLens_any w.heap.size va bs w1 hst1 hl HZ.out).mono ?_
  rintro e w3 ⟨v3, xs, rfl, hx3, ho3, hst3, hg3⟩
  have hb3 : Below w.heap.size w w3 := hb1.grown hg3 hb1.size (fun k hk => by cases hk; exact Nat.le_refl _)
  have hs3 := hg3.size
  clear hst1 hg3 hb1 ha hz
  go_wp2_with fail
  refine (specCodes_any v3 xs w3 (rd_owns ho3) (by omega)).mono ?_
  rintro e w4 ⟨v4, rfl, ho4, hb4⟩
  obtain ⟨hL, hC⟩ := codesT_sizes xs
  have HC := Lib.hid hC
  generalize codesT xs = L at ho4 hL hC HC
  have hst4 : St w4 w.heap.size va bs := st_below hst3 (hb4.mono (by omega))
  have hb4w := hb3.trans (hb4.mono hb3.size)
  have hs4 := hb4.size
  obtain ⟨ao, cap, rfl⟩ : ∃ ao cap, v4 = .slice ao L.length cap := by
    rcases ho4.2 with ⟨hv, h0⟩ | ⟨g, cap, cur, hv, _⟩
    · exact ⟨none, 0, by rw [hv, h0]⟩
    · exact ⟨_, _, hv⟩
  have HO4 := Lib.hid ho4
  clear ho3 hst3 hb3 hb4 ho4 hC
  go_wp2_with fail
  refine (drawText5_any w.heap.size va bs L.length _ hst4 hl HZ.out hL).mono ?_
  rintro e w5 ⟨s, rfl, hss, hst5, hg5⟩
  have ho5 := owns_grown HO4.out hg5 (fun k hk h => by cases hk; have := (HO4.out.lt _ h).1; omega)
  have hb5 : Below w.heap.size w w5 := hb4w.grown hg5 hb4w.size (fun k hk => by cases hk; exact Nat.le_refl _)
  have hs5 := hg5.size
  have HO5 := Lib.hid ho5
  clear ho5 hst4 hg5 hb4w HO4
  go_wp2_with fail
  refine (once_any w.heap.size va bs 10 _ hst5 hl HZ.out (by omega)).mono ?_
  rintro e w6 ⟨b, rfl, hst6, hg6⟩
  have ho6 := owns_grown HO5.out hg6 (fun k hk h => by cases hk; have := (HO5.out.lt _ h).1; omega)
  have hb6 : Below w.heap.size w w6 := hb5.grown hg6 hb5.size (fun k hk => by cases hk; exact Nat.le_refl _)
  have o1 := Lib.hid (owns_mono5 ho6 (show w.heap.size ≤ w3.heap.size by omega))
  clear ho6 hst5 hst6 hg6 hb5 HO5
  cases b with
  | false =>
    go_wp2
    go_ret2
    exact ⟨s, _, L, rfl, by omega, hL, HC.out, o1.out, hb6⟩
  | true =>
    have hadd : ∀ W : World, (Op.stringOp .add s ⟨#[9]⟩).run Try.prog W = .ok (.string (s ++ ⟨#[9]⟩)) W := fun W => run_string_add_sum W _ _ (by have : (⟨#[9]⟩ : ByteArray).size = 1 := rfl; omega)
    have hsz : (s ++ ⟨#[9]⟩ : ByteArray).size ≤ 8 := by rw [ByteArray.size_append]; have : (⟨#[9]⟩ : ByteArray).size = 1 := rfl; omega
    generalize (s ++ ⟨#[9]⟩ : ByteArray) = t at hadd hsz
    go_wp2
    go_ret2
    exact ⟨t, _, L, rfl, hsz, hL, HC.out, o1.out, hb6⟩
abbrev tabS : Array Value := #[.string ⟨#[]⟩, .string ⟨#[48]⟩, .string ⟨#[49, 48]⟩]
theorem tabS_get (j : Nat) (h : j < 3) : ∃ z : ByteArray, tabS[j]? = some (.string z) ∧ z.size ≤ 2 := by
  rcases (show j = 0 ∨ j = 1 ∨ j = 2 by omega) with rfl | rfl | rfl
  · exact ⟨⟨#[]⟩, rfl, by decide⟩
  · exact ⟨⟨#[48]⟩, rfl, by decide⟩
  · exact ⟨⟨#[49, 48]⟩, rfl, by decide⟩
theorem one_str5 (w : World) (s : ByteArray) (t : TypeId) : ∀ j u, ([Value.string s] : List Value)[j]? = some u → (w.alloc (.cells #[Value.string s] t)).cell? ((⟨w.heap.size, 0, none⟩ : Addr).add j) = some u := by
  intro j u hj
  match j, hj with
  | 0, hj => simp at hj; subst hj; simp [Addr.add]
theorem codedT_size {s : ByteArray} {cs : List ByteArray} : ((codedT s cs).getD ⟨#[]⟩).size ≤ 20000 := by
  unfold codedT
  split
  · rename_i h
    show (asB _).size ≤ 20000
    rw [asB_size]
    exact h.2
  · exact Nat.zero_le _
set_option maxHeartbeats 1000000 in
set_option maxRecDepth 100000 in
theorem drawDecoded_any (va : Value) (bs : List Int) (w : World) (ha : Rd w va (cellsByteS bs)) (hl : bs.length ≤ 4096) (hz : Bytes bs) :
    Calls Try.prog 30 #[va] w fun e w' => ∃ (s : ByteArray) (v : Value) (cs : List ByteArray), e = .returned (.tuple #[.string s, v]) ∧ s.size ≤ 20002 ∧ cs.length ≤ 33 ∧ (∀ c ∈ cs, c.size ≤ 40) ∧ w'.ownsRow w.heap.size 9 1 v cs.length (cellsS cs) ∧ Below w.heap.size w w' := by
  obtain ⟨i0, hi, hz0, hz1, hz2⟩ := info_parts Try.infoS
  have HZ := Lib.hid (codeR hz)
  go_enter Try.func30, Try.ntmps30
  go_wp2_with fail
  refine (new_any va bs w ha hl HZ.out).mono ?_
  rintro e w1 ⟨rfl, hst1, hb1, hs1⟩
  go_wp2_with fail
  refine (drawLens_any w.heap.size va bs w1 hst1 hl HZ.out).mono ?_
  rintro e w3 ⟨v3, xs, rfl, hx3, ho3, hst3, hg3⟩
  have hb3 : Below w.heap.size w w3 := hb1.grown hg3 hb1.size (fun k hk => by cases hk; exact Nat.le_refl _)
  have hs3 := hg3.size
  clear hst1 hg3 hb1 ha hz
  go_wp2_with fail
  refine (specCodes_any v3 xs w3 (rd_owns ho3) (by omega)).mono ?_
  rintro e w4 ⟨v4, rfl, ho4, hb4⟩
  obtain ⟨hL, hC⟩ := codesT_sizes xs
  have HC := Lib.hid hC
  generalize codesT xs = L at ho4 hL hC HC
  have hst4 : St w4 w.heap.size va bs := st_below hst3 (hb4.mono (by omega))
  have hb4w := hb3.trans (hb4.mono hb3.size)
  have hs4 := hb4.size
  obtain ⟨ao, cap, rfl⟩ : ∃ ao cap, v4 = .slice ao L.length cap := by
    rcases ho4.2 with ⟨hv, h0⟩ | ⟨g, cap, cur, hv, _⟩
    · exact ⟨none, 0, by rw [hv, h0]⟩
    · exact ⟨_, _, hv⟩
  have HO4 := Lib.hid ho4
  clear ho3 hst3 hb3 hb4 ho4 hC
  go_wp2_with fail
  refine (drawText5_any w.heap.size va bs L.length _ hst4 hl HZ.out hL).mono ?_
  rintro e w5 ⟨s, rfl, hss, hst5, hg5⟩
  have ho5 := owns_grown HO4.out hg5 (fun k hk h => by cases hk; have := (HO4.out.lt _ h).1; omega)
  have hb5 : Below w.heap.size w w5 := hb4w.grown hg5 hb4w.size (fun k hk => by cases hk; exact Nat.le_refl _)
  have hs5 := hg5.size
  have HO5 := Lib.hid ho5
  have hcd := specCoded_any s _ L w5 (by omega) (rd_owns ho5) (by omega) (fun c hc => by have := HC.out c hc; omega)
  have hcs := @codedT_size s L
  obtain ⟨t, b0, ht⟩ : ∃ t b0, optV (codedT s L) = .tuple #[.string t, .bool b0] ∧ t.size ≤ 20000 := ⟨_, _, rfl, hcs⟩
  rw [ht.1] at hcd
  have hts := ht.2
  clear ho5 hst4 hg5 hb4w HO4 ht hcs
  go_wp2_with fail
  refine hcd.mono ?_
  rintro e w6 ⟨rfl, hb6⟩
  have ho6 := owns_below HO5.out hb6
  have hst6 : St w6 w.heap.size va bs := st_below hst5 (hb6.mono (by have := st_lt hst5; omega))
  have hb6w := hb5.trans (hb6.mono hb5.size)
  have hs6 := hb6.size
  have HO6 := Lib.hid ho6
  clear hcd ho6 HO5 hb5 hb6 hst5
  go_wp2_with fail
  refine (once_any w.heap.size va bs 2 _ hst6 hl HZ.out (by omega)).mono ?_
  rintro e w7 ⟨b, rfl, hst7, hg7⟩
  have ho7 := owns_grown HO6.out hg7 (fun k hk h => by cases hk; have := (HO6.out.lt _ h).1; omega)
  have hb7 : Below w.heap.size w w7 := hb6w.grown hg7 hb6w.size (fun k hk => by cases hk; exact Nat.le_refl _)
  have hs7 := hg7.size
  have HO7 := Lib.hid ho7
  have HST7 := Lib.hid hst7
  clear ho7 hst6 hst7 hg7 hb6w HO6
  go_upto_if 23 with (fail)
  go_cut [6] from 24 to 26 (fun sv wx => ∃ u : ByteArray, sv = .string u ∧ u.size ≤ 20002 ∧ w7.heap.size ≤ wx.heap.size ∧ wx.ownsRow w3.heap.size 9 1 (.slice ao L.length cap) L.length (cellsS L) ∧ St wx w.heap.size va bs ∧ Below w.heap.size w wx)
  case first =>
    cases b with
    | false =>
      go_wp2
      go_meet
      exact ⟨t, rfl, by omega, Nat.le_refl _, HO7.out, HST7.out, hb7⟩
    | true =>
      go_wp2_with fail
      refine (bend_any w.heap.size va bs t ⟨#[48, 49, 120]⟩ w7 HST7.out hl HZ.out (by omega) (by decide) (by decide)).mono ?_
      rintro e w8 ⟨u, rfl, hu, hst8, hg8⟩
      have ho8 := owns_grown HO7.out hg8 (fun k hk h => by cases hk; have := (HO7.out.lt _ h).1; omega)
      have hb8 : Below w.heap.size w w8 := hb7.grown hg8 hb7.size (fun k hk => by cases hk; exact Nat.le_refl _)
      go_wp2
      go_meet
      exact ⟨u, rfl, by omega, hg8.size, ho8, hst8, hb8⟩
  case rest =>
  obtain ⟨u, rfl, husz, hsx, hox, hstx, hbx⟩ := hcut
  have HOX := Lib.hid hox
  clear hox HO7 HST7 hb7
  rename World => wx
  go_wp2_with fail
  refine (once_any w.heap.size va bs 12 _ hstx hl HZ.out (by omega)).mono ?_
  rintro e w9 ⟨b, rfl, hst9, hg9⟩
  have ho9 := owns_grown HOX.out hg9 (fun k hk h => by cases hk; have := (HOX.out.lt _ h).1; omega)
  have hb9 : Below w.heap.size w w9 := hbx.grown hg9 hbx.size (fun k hk => by cases hk; exact Nat.le_refl _)
  have hs9 := hg9.size
  clear hstx hg9 hbx HOX
  cases b with
  | false =>
    have o1 := Lib.hid (owns_mono5 ho9 (show w.heap.size ≤ w3.heap.size by omega))
    clear ho9
    go_wp2
    go_ret2
    exact ⟨u, _, L, rfl, husz, by omega, HC.out, o1.out, hb9⟩
  | true =>
    have hstA : St (w9.alloc (.cells tabS 9)) w.heap.size va bs := st_below hst9 ((Below.refl _ _).alloc (by have := st_lt hst9; omega) _)
    go_wp2_with fail
    refine (below_any w.heap.size va bs 3 _ hstA hl HZ.out (by omega)).mono ?_
    rintro e w10 ⟨q, rfl, hq0, hq1, _, hst10, hg10⟩
    have hq2 := hq1 (by omega)
    obtain ⟨q, rfl⟩ := Int.eq_ofNat_of_zero_le hq0
    obtain ⟨z, hzr, hzs⟩ := tabS_get q (by omega)
    have hlt9 := st_lt hst9
    have hcell : w10.cell? ⟨w9.heap.size, q, none⟩ = some (.string z) := by
      rw [World.cell?_of_block (w := w9.alloc (.cells tabS 9)) (hg10.block w9.heap.size (by simp) (by simp; omega)), World.cell?_alloc_at _ _ _ _ rfl]
      exact hzr
    have ho10 := owns_grown (ho9.alloc (.cells tabS 9)) hg10 (fun k hk h => by cases hk; have := (ho9.lt _ h).1; omega)
    have hb10 : Below w.heap.size w w10 := (hb9.alloc hb9.size _).grown hg10 (by simp; exact Nat.le_succ_of_le hb9.size) (fun k hk => by cases hk; exact Nat.le_refl _)
    have hs10 := hg10.size
    have hs10b : w9.heap.size ≤ w10.heap.size := by simp at hs10; omega
    clear hstA hst10 hg10 hzr hq1 ho9 hb9 hst9 hs10
    go_wp2_with (at_builtin; refine wpList_append_own _ rfl _ _ 44 rfl w3.heap.size 9 i0 (.string ⟨#[]⟩) 1 16 Try.underlying44 hi hz0 hz1 hz2 rfl (by decide) _ _ _ rfl (ho10.alloc _) ⟨w10.heap.size, 0, none⟩ 1 1 [.string z] rfl rfl ?d1 ?d2 ?d3 ?d4 ?d5 ?_)
    case d1 => exact one_str5 w10 z _
    case d2 => intro y hy; rw [List.mem_singleton.1 hy]; rfl
    case d3 => unfold maxLen; omega
    case d4 => omega
    case d5 => simp; omega
    intro v11 w11 ho11 hg11 _
    have hg12 := grown_trans (World.grownBy_alloc w10 _ _) hg11
    have hb11 : Below w.heap.size w w11 := hb10.grown hg12 hb10.size (fun k hk => by have := (ho10.lt k hk).1; omega)
    have ho12 : w11.ownsRow w.heap.size 9 1 v11 (L ++ [z]).length (cellsS (L ++ [z])) := owns_mono5 (b := w3.heap.size) (by simpa [cellsS] using ho11) (by omega)
    have HO12 := Lib.hid ho12
    clear ho11 hg11 hg12 ho10 hb10 ho12
    go_wp2
    go_ret2
    exact ⟨u, _, L ++ [z], rfl, husz, by rw [List.length_append, List.length_singleton]; omega, fun c hc => by
      rcases List.mem_append.1 hc with h | h
      · exact HC.out c h
      · rw [List.mem_singleton.1 h]; omega, HO12.out, hb11⟩
end Go.Proofs.Ytiflpnmkclcimab
