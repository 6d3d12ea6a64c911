/- FnFixed: Huffman's lengths cost no more than codes that are all as long as they must, who is counted more has no longer one, and of one more count all cost more. For every code, without a condition. -/
import Derived.Test.YtiflpnmkclcimaeLenLaw
import Derived.Test.YtiflpnmkclcimaeLenW
import Derived.Test.YtiflpnmkclcimaeDrawsF
import Derived.Test.YtiflpnmkclcimaeLikeI
import Derived.Test.YtiflpnmkclcimaePick
import Derived.Test.YtiflpnmkclcimaeArgs
namespace Go.Proofs.Ytiflpnmkclcimae.fnFixed
open Go.ChangeShapes Go.WideShapes Go.ChangeAt Go.RowKit
set_option linter.unusedVariables false
theorem slice_shape {w : World} {b : Nat} {e : TypeId} {v : Value} {n : Nat} {xs : List Value} (h : w.ownsRow b e 1 v n xs) : ∃ ao cap, v = .slice ao n cap := by
  rcases h.2 with ⟨hv, h0⟩ | ⟨g, cap, cur, hv, _⟩
  · exact ⟨none, 0, by rw [hv, h0]⟩
  · exact ⟨_, _, hv⟩
theorem lengthsT_len (l : List Int) : (lengthsT l).length ≤ 32 := by
  unfold lengthsT
  split
  · rename_i h
    have := (allIn_out h).1.2
    unfold lengthsI
    rw [rowF_len]
    exact this
  · simp
set_option maxHeartbeats 1000000 in
set_option maxRecDepth 100000 in
theorem walk (va : Value) (bs : List Int) (w : World) (ha : Rd w va (cellsByteS bs)) (hz : Bytes bs) (hlen : bs.length ≤ 9223372036854775807) :
    Calls Try.prog 4 #[va] w fun e w' => e = .returned (.bool true) ∧ Below w.heap.size w w' := by
  by_cases hbig : 4096 < (bs.length : Int)
  · obtain ⟨ao, cap, rfl, _, _⟩ := ha
    have hla : (cellsByteS bs).length = bs.length := by simp
    rw [hla]
    go_enter Try.func4, Try.ntmps4
    go_wp2
    go_ret
    exact ⟨rfl, Below.refl _ _⟩
  have hl : bs.length ≤ 4096 := by omega
  have hbg : Calls Try.prog 5 #[va] w fun e w' => e = .returned (.bool false) ∧ w' = w := by
    obtain ⟨ao, cap, rfl, _, _⟩ := ha
    have hla : (cellsByteS bs).length = bs.length := by simp
    rw [hla]
    go_enter Try.func5, Try.ntmps5
    go_wp2
    go_ret
    exact ⟨by simp, rfl⟩
  have HZ := Lib.hid hz
  have HA := Lib.hid ha
  clear hz hbig hlen ha
  go_enter Try.func4, Try.ntmps4
  go_wp2_with fail
  refine hbg.mono ?_
  rintro e w' ⟨rfl, hw'⟩
  replace hw' := hw'.symm
  subst hw'
  clear hbg
  go_wp2_with fail
  refine (drawLengths_any va bs w HA.out hl HZ.out).mono ?_
  rintro e w1 ⟨v1, xs, rfl, hx1, ho1, hb1⟩
  have s1 := hb1.size
  have hL32 := lengthsT_len xs
  have HIM := Lib.hid (fun va w ha => implLengths_any va xs w ha (by omega))
  have HSP := Lib.hid (fun va w ha => specLengths_any va xs w ha (by omega))
  go_wp2_with fail
  refine (HIM.out v1 w1 (rd_owns ho1)).mono ?_
  rintro e w2 ⟨v2, rfl, ho2, hb2⟩
  have s2 := hb2.size
  have hB2 := hb1.trans (hb2.mono s1)
  have ho12 := owns_below ho1 hb2
  clear hb1 hb2 ho1
  go_wp2_with fail
  refine (HSP.out v1 w2 (rd_owns ho12)).mono ?_
  rintro e w3 ⟨v3, rfl, ho3, hb3⟩
  have s3 := hb3.size
  have hB3 := hB2.trans (hb3.mono (by omega))
  have ho13 := owns_below ho12 hb3
  have ho23 := owns_below ho2 hb3
  clear hB2 hb3 ho12 ho2
  go_wp2_with fail
  refine (likeInts_any v2 v3 _ _ w3 (rd_owns ho23) (rd_owns ho3) (by omega) (by omega)).mono ?_
  rintro e w4 ⟨rfl, hb4⟩
  rw [decide_eq_true rfl]
  have s4 := hb4.size
  have hB4 := hB3.trans (hb4.mono (by omega))
  have ho14 := owns_below ho13 hb4
  have ho24 := owns_below ho23 hb4
  clear hB3 hb4 ho13 ho23 ho3
  cases hkb : allIn xs 100000
  focus
    have e0 : lengthsT xs = [] := by unfold lengthsT; rw [if_neg (by rw [hkb]; simp)]
    rw [e0] at ho24
    obtain ⟨ao2, cap2, rfl⟩ := slice_shape ho24
    have HIM2 := HSP.out v1 w4 (rd_owns ho14)
    rw [e0] at HIM2
    clear HIM HSP ho14 ho24 hkb e0
    go_wp2_with fail
    refine HIM2.mono ?_
    rintro e w5 ⟨v5, rfl, ho5, hb5⟩
    have hB5 := hB4.trans (hb5.mono (by omega))
    obtain ⟨ao5, cap5, rfl⟩ := slice_shape ho5
    clear HIM2 hB4 hb5 ho5
    go_wp2
    go_ret
    exact ⟨by simp, hB5⟩
  clear HSP
  obtain ⟨⟨hl1, hl32⟩, hall⟩ := allIn_out hkb
  rw [lengthsT_in hkb, lengthsI_len] at ho24
  obtain ⟨g1, cap1, rfl, hg1⟩ := owns_head ho14 (by omega)
  obtain ⟨g2, cap2, rfl, hg2⟩ := owns_head ho24 (by omega)
  have hfx : Hid (∀ m : Nat, 1 ≤ m → m ≤ 40 → xs.length ≤ 2 ^ m → costT xs (lengthsI xs) ≤ ((Huff.total (cN xs) xs.length : Nat) : Int) * (m : Int)) := fun m m1 m2 m3 => by
    rw [costT_own hkb]
    have := Huff.lenD_fixed (c := cN xs) hl1 hl32 m1 m2 m3
    rw [← Int.natCast_mul]
    omega
  have hlow : Hid (((Huff.total (cN xs) xs.length : Nat) : Int) ≤ costT xs (lengthsI xs)) := by
    show _ ≤ _
    rw [costT_own hkb]
    have := Huff.cost_low (c := cN xs) (x := Huff.lenD (cN xs) xs.length) (n := xs.length) (fun i hi => (Huff.lenD_in hl1 hl32 hi).1)
    omega
  have hmono : Hid (∀ i k, i < xs.length → k < xs.length → xs.getD k 0 < xs.getD i 0 → (lengthsI xs).getD i 0 ≤ (lengthsI xs).getD k 0) := fun i k hi hk hc => by
    have := Huff.lenD_mono (c := cN xs) hl1 hl32 hi hk (by have := hall i hi; have := hall k hk; unfold cN; omega)
    rw [lengthsI_get hi, lengthsI_get hk]
    omega
  have hcells : Hid (∀ i, i < xs.length → w4.cell? ⟨g1, i, none⟩ = some (.int .i64 (xs.getD i 0))) := fun i hi => by
    have h := ho14.cellAt i (by omega)
    rw [h, ints_get _ _ i hi]
  have hcells2 : Hid (∀ i, i < xs.length → w4.cell? ⟨g2, i, none⟩ = some (.int .i64 ((lengthsI xs).getD i 0))) := fun i hi => by
    have h := ho24.cellAt i (by omega)
    rw [h, ints_get _ _ i (by rw [lengthsI_len]; exact hi)]
  have hall2 := Lib.hid hall
  have htot : Hid (∀ i, i < xs.length → ((Huff.total (cN xs) (i + 1) : Nat) : Int) = ((Huff.total (cN xs) i : Nat) : Int) + xs.getD i 0) := fun i hi => by
    have := hall i hi
    unfold Huff.total
    rw [List.range_succ, List.map_append, List.sum_append]
    simp only [List.map_cons, List.map_nil, List.sum_cons, List.sum_nil, Nat.add_zero, Int.natCast_add]
    unfold cN
    rw [Int.toNat_of_nonneg (by omega)]
  have htb : Hid (∀ i, i ≤ xs.length → Huff.total (cN xs) i ≤ 3200000) := fun i hi => by
    unfold Huff.total
    have := sum_len (c := cN xs) (K := 100000) (List.range i) (fun j hj => by
      have := hall j (by have := List.mem_range.1 hj; omega)
      unfold cN
      omega)
    rw [List.length_range] at this
    omega
  have ho14' := Lib.hid ho14
  have ho24' := Lib.hid ho24
  have hkb' := Lib.hid hkb
  clear ho14 ho24 hkb hall hL32
  obtain ⟨n, hn⟩ : ∃ n, n = xs.length := ⟨_, rfl⟩
  rw [← hn] at hl1 hl32 hfx hlow hmono hcells hcells2 hall2 htot htb hx1 ⊢
  have HN := Lib.hid hn
  clear hn
  go_wp2
  go_loopw [5, 6] (fun p q wr => ∃ m k : Nat, p = .int .i64 m ∧ q = .int .i64 k ∧ 1 ≤ m ∧ m ≤ 6 ∧ Hid (k = 2 ^ m) ∧ k ≤ 64 ∧ Hid (m = 1 ∨ 2 ^ (m - 1) < n) ∧ wr = w4) (fun p _ _ => 7 - (intOf p).toNat)
  case atStart => exact ⟨1, 2, rfl, rfl, by omega, by omega, rfl, by omega, Or.inl rfl, rfl⟩
  case round =>
    obtain ⟨m, k, rfl, rfl, hm1, hm6, hk, hk64, hmn, rfl⟩ := hrel
    by_cases hlt : k < n
    focus
      have hm5 : m ≤ 5 := by
        have h1 := hk.out
        rcases (show m ≤ 5 ∨ m = 6 by omega) with h | h
        · exact h
        · subst h; omega
      have hk2 : Hid (2 * k = 2 ^ (m + 1)) := by
        show _ = _
        rw [hk.out, Nat.pow_succ, Nat.mul_comm]
      have hm2 : Hid (m + 1 = 1 ∨ 2 ^ (m + 1 - 1) < n) := Or.inr (by rw [Nat.add_sub_cancel, ← hk.out]; exact hlt)
      have hk3 : 2 * k ≤ 64 := by omega
      go_wp2
      go_roundw
      case rel => exact ⟨m + 1, 2 * k, by go_num, by go_num, by omega, by omega, hk2, by omega, hm2, by first | rfl | trivial⟩
      case measure => simp [intOf]; omega
    have hfix : Hid (costT xs (lengthsI xs) ≤ ((Huff.total (cN xs) n : Nat) : Int) * (m : Int)) := hfx.out m hm1 (by omega) (by rw [← hk.out]; omega)
    clear hfx hmn
    go_wp2
    go_loopw [7, 8] (fun s i w5 => ∃ j T : Nat, i = .int .i64 j ∧ s = .int .i64 T ∧ j ≤ n ∧ Hid (T = Huff.total (cN xs) j) ∧ T ≤ 3200000 ∧ Hid (Below wr.heap.size wr w5)) (fun _ i _ => n - (intOf i).toNat)
    case atStart => exact ⟨0, 0, rfl, rfl, Nat.zero_le _, rfl, by omega, Below.refl _ _⟩
    case round =>
      rename World => w5
      obtain ⟨j, T, rfl, rfl, hj, hT, hTb, hb5⟩ := hrel
      by_cases hjn : j < n
      focus
        have hg1l := hg1
        have c1 : w5.cell? ⟨g1, j, none⟩ = some (.int .i64 (xs.getD j 0)) := (hb5.out.cell (p := ⟨g1, j, none⟩) (ho14'.out.lt g1 rfl).2).trans (hcells.out j hjn)
        obtain ⟨a, hha⟩ : ∃ a, a = xs.getD j 0 := ⟨_, rfl⟩
        have hab := hall2.out j hjn
        have hto := htot.out j hjn
        have htb2 := htb.out (j + 1) (by omega)
        rw [← hT.out] at hto
        obtain ⟨T2, hT2⟩ : ∃ T2, T2 = Huff.total (cN xs) (j + 1) := ⟨_, rfl⟩
        rw [← hT2] at hto htb2
        rw [← hha] at c1 hab hto
        have HA2 := Lib.hid hha
        have HT2 := Lib.hid hT2
        have hTs : (T : Int) + a = (T2 : Int) := hto.symm
        clear hha hT2 hto
        go_wp2
        go_loopw [9] (fun k w6 => ∃ q : Nat, k = .int .i64 q ∧ q ≤ j ∧ Hid (Below wr.heap.size wr w6)) (fun k _ => j - (intOf k).toNat)
        case atStart => exact ⟨0, rfl, Nat.zero_le _, hb5⟩
        case round =>
          rename World => w6
          obtain ⟨q, rfl, hq, hb6⟩ := hrel
          by_cases hqj : q < j
          focus
            have hqn : q < n := by omega
            have d1 : w6.cell? ⟨g1, j, none⟩ = some (.int .i64 a) := by
              rw [HA2.out]
              exact (hb6.out.cell (p := ⟨g1, j, none⟩) (ho14'.out.lt g1 rfl).2).trans (hcells.out j hjn)
            have d2 := (hb6.out.cell (p := ⟨g1, q, none⟩) (ho14'.out.lt g1 rfl).2).trans (hcells.out q hqn)
            have d3 := (hb6.out.cell (p := ⟨g2, j, none⟩) (ho24'.out.lt g2 rfl).2).trans (hcells2.out j hjn)
            have d4 := (hb6.out.cell (p := ⟨g2, q, none⟩) (ho24'.out.lt g2 rfl).2).trans (hcells2.out q hqn)
            have m1 := hmono.out j q hjn hqn
            have m2 := hmono.out q j hqn hjn
            rw [← HA2.out] at m1 m2
            obtain ⟨b, hhb⟩ : ∃ b, b = xs.getD q 0 := ⟨_, rfl⟩
            obtain ⟨x, hhx⟩ : ∃ x, x = (lengthsI xs).getD j 0 := ⟨_, rfl⟩
            obtain ⟨y, hhy⟩ : ∃ y, y = (lengthsI xs).getD q 0 := ⟨_, rfl⟩
            rw [← hhb] at d2 m1 m2
            rw [← hhx] at d3 m1 m2
            rw [← hhy] at d4 m1 m2
            clear hhb hhx hhy c1
            rcases (show b < a ∨ a < b ∨ a = b by omega) with hab2 | hab2 | hab2
            focus
              have m3 := m1 hab2
              have t1 : decide (b < a) = true := decide_eq_true hab2
              have t2 : decide (y < x) = false := decide_eq_false (by omega)
              have t3 : decide (a < b) = false := decide_eq_false (by omega)
              clear m1 m2
              go_wp2
              go_quiet (fail)
              go_wp2
              go_roundw
              case rel => exact ⟨q + 1, by go_num, by omega, below_drewN hb6.out _⟩
              case measure => simp [intOf]; omega
            focus
              have m3 := m2 hab2
              have t1 : decide (b < a) = false := decide_eq_false (by omega)
              have t2 : decide (x < y) = false := decide_eq_false (by omega)
              have t3 : decide (a < b) = true := decide_eq_true hab2
              clear m1 m2
              go_wp2
              go_quiet (fail)
              go_wp2
              go_roundw
              case rel => exact ⟨q + 1, by go_num, by omega, below_drewN hb6.out _⟩
              case measure => simp [intOf]; omega
            have t1 : decide (b < a) = false := decide_eq_false (by omega)
            have t3 : decide (a < b) = false := decide_eq_false (by omega)
            clear m1 m2 hab2
            go_wp2
            go_quiet (fail)
            go_wp2
            go_roundw
            case rel => exact ⟨q + 1, by go_num, by omega, below_drewN hb6.out _⟩
            case measure => simp [intOf]; omega
          obtain rfl : q = j := by omega
          clear c1 hb5
          go_wp2
          go_roundw
          case rel => exact ⟨q + 1, T2, by go_num, rfl, by omega, HT2.out, htb2, hb6⟩
          case measure => simp [intOf]; omega
      obtain rfl : j = n := by omega
      have hc1 := rd_below (rd_owns ho14'.out) hb5.out
      have hc2 := rd_below (rd_owns ho24'.out) hb5.out
      rw [← HN.out] at hc1 hc2
      have hcost := Lib.hid (implCost_any _ _ xs (lengthsI xs) w5 hc1 hc2 (by have := HN.out; omega) (by rw [lengthsI_len]; have := HN.out; omega))
      have HC1 := Lib.hid hc1
      have hcn : Hid (costT xs (lengthsI xs) = ((Huff.cost (cN xs) (Huff.lenD (cN xs) xs.length) xs.length : Nat) : Int)) := costT_own hkb'.out
      have hfx2 := hfix.out
      have hlow2 := hlow.out
      rw [← hT.out] at hfx2 hlow2
      obtain ⟨C, hC⟩ : ∃ C, C = costT xs (lengthsI xs) := ⟨_, rfl⟩
      rw [← hC] at hcost hcn hfx2 hlow2
      have HCC := Lib.hid hC
      obtain ⟨P, hP⟩ : ∃ P : Nat, P = T * m := ⟨_, rfl⟩
      have hPI : (T : Int) * (m : Int) = (P : Int) := by rw [hP, Int.natCast_mul]
      have hPb : P ≤ 19200000 := by
        rw [hP]
        exact Nat.le_trans (Nat.mul_le_mul hTb hm6) (by omega)
      rw [hPI] at hfx2
      have q1 : decide ((P : Int) < C) = false := decide_eq_false (by omega)
      have q2 : decide (C < (T : Int)) = false := decide_eq_false (by omega)
      clear hC hP hc1 hc2 hfix
      go_wp2_with fail
      refine hcost.out.mono ?_
      rintro e u ⟨rfl, hu⟩
      replace hu := hu.symm
      subst hu
      clear hcost
      by_cases h32 : j = 32
      focus
        subst h32
        go_wp2
        go_ret
        exact ⟨by first | rfl | simp, hB4.trans (hb5.out.mono hB4.size)⟩
      have h32D : ((j : Int) == 32) = false := by simp; omega
      have HB5 : Hid (Below w.heap.size w w5) := hB4.trans (hb5.out.mono hB4.size)
      obtain ⟨i0, hi, hz0, hz1, hz2⟩ := info_parts Try.info64
      have hcl : (cellsInt64S xs).length = j := by simp [HN.out]
      have hsw : w.heap.size ≤ w5.heap.size := HB5.out.size
      have hcs5 : Hid (∀ i, i < j → w5.cell? ⟨g1, i, none⟩ = some (.int .i64 (xs.getD i 0))) := fun i hi => (hb5.out.cell (p := ⟨g1, i, none⟩) (ho14'.out.lt g1 rfl).2).trans (hcells.out i hi)
      have hg1w : g1 < w5.heap.size := Nat.lt_of_lt_of_le (ho14'.out.lt g1 rfl).2 hb5.out.size
      have HCL := Lib.hid hcl
      have s5a := World.size_alloc w5 (.cells #[] 2)
      clear hcells hcells2 hmono hall2 htot htb hb5 hlow hB4 hcl ho14' ho24' HC1
      go_wp2_with (at_builtin; refine wpList_append_own _ rfl _ _ 32 rfl w5.heap.size 2 i0 (.int .i64 0) 1 8 Try.underlying32 hi hz0 hz1 hz2 rfl (by decide) (.slice (some ⟨w5.heap.size, 0, none⟩) 0 0) 0 [] rfl ?b0 ⟨g1, 0, none⟩ j cap1 (cellsInt64S xs) rfl ?b1 ?b2 ?b3 ?b4 ?b5 ?b6 ?_)
      case b0 => exact World.ownsRow_lit w5 #[] 0 (Nat.le_refl _) (Nat.zero_le _) rfl
      case b1 => rw [HCL.out, Nat.mul_one]
      case b2 =>
        intro q u hq
        have hql : q < j := by
          have h := (List.getElem?_eq_some_iff.1 hq).1
          rwa [HCL.out] at h
        rw [Addr.add_mid, Nat.zero_add, ← hq, ints_get _ _ q (by have := HN.out; omega), ← hcs5.out q hql]
        exact ((Below.refl w5.heap.size w5).alloc (Nat.le_refl _) _).cell (p := ⟨g1, q, none⟩) hg1w
      case b3 => exact ints_oneCell .i64 xs
      case b4 => unfold maxLen; omega
      case b5 => omega
      case b6 => rw [s5a]; omega
      intro v6 w6 ho6 hg6 _
      have hB6 : Below w.heap.size w w6 := (HB5.out.alloc hsw (.cells #[] 2)).grown hg6 (by rw [s5a]; omega) (fun q hq => by cases hq; exact hsw)
      have HB6 := Lib.hid hB6
      have HO6 := Lib.hid ho6
      have hs56 : w5.heap.size + 1 ≤ w6.heap.size := by have := hg6.size; omega
      clear hB6 ho6 hg6 hcs5 HB5 s5a
      go_wp2_with fail
      refine (pick_any va bs 1 9 w6 (rd_below HA.out HB6.out) hl (bytes_get HZ.out) (by decide) (by decide) (by decide) (by decide)).mono ?_
      rintro e w7 ⟨r, rfl, hr0, hr9, hb7⟩
      have s7 := hb7.size
      have HO7 := Lib.hid (owns_below HO6.out hb7)
      have HB7 := Lib.hid (HB6.out.trans (hb7.mono (by omega)))
      have s7a := World.size_alloc w7 (.cells #[.int .i64 (1 + r)] 2)
      have hr1 : IntKind.i64.wrap (1 + r) = 1 + r := IntWalk.i64_in _ ⟨by omega, by omega⟩
      clear HO6 HB6 hb7
      go_wp2_with (at_builtin; refine wpList_append_own _ rfl _ _ 32 rfl w5.heap.size 2 i0 (.int .i64 0) 1 8 Try.underlying32 hi hz0 hz1 hz2 rfl (by decide) _ _ _ rfl (World.ownsRow.alloc HO7.out _) ⟨w7.heap.size, 0, none⟩ 1 1 [.int .i64 (1 + r)] rfl ?b1 ?b2 ?b3 ?b4 ?b5 ?b6 ?_)
      case b1 => rfl
      case b2 => exact one_cell w7 .i64 _ _
      case b3 => exact ints_oneCell .i64 [1 + r]
      case b4 => unfold maxLen; omega
      case b5 => omega
      case b6 => rw [s7a]; omega
      intro v8 w8 ho8 hg8 _
      have hk7 := fun q (hq : v6.ownBlock = some q) => HO7.out.lt q hq
      have HB8 : Hid (Below w.heap.size w w8) := (HB7.out.alloc HB7.out.size (.cells #[.int .i64 (1 + r)] 2)).grown hg8 (by rw [s7a]; have := HB7.out.size; omega) (fun q hq => by have := (hk7 q hq).1; omega)
      obtain ⟨ys, hys⟩ : ∃ ys, ys = xs ++ [1 + r] := ⟨_, rfl⟩
      have hyl : ys.length = j + 1 := by rw [hys, List.length_append, HN.out]; rfl
      have HO8 : Hid (w8.ownsRow w5.heap.size 2 1 v8 ys.length (cellsInt64S ys)) := by
        show World.ownsRow _ _ _ _ _ _ _
        rw [hyl, hys, cellsInt64S, List.map_append]
        exact ho8
      have hkx := allIn_out hkb'.out
      have hky : allIn ys 100000 = true := by
        refine allIn_yes ⟨by omega, by omega⟩ (fun i hi => ?_)
        rw [hys]
        rcases Nat.lt_or_ge i xs.length with h | h
        · have := hkx.2 i h
          simpa [List.getD, List.getElem?_append_left h] using this
        · have e : i = xs.length := by have := HN.out; omega
          subst e
          simp [List.getD]
          omega
      have hcy : Hid (costT ys (lengthsT ys) > C) := by
        show C < _
        rw [lengthsT_in hky, costT_own hky, hcn.out, hyl, ← HN.out]
        have := Huff.lenD_more (c := cN xs) (c' := cN ys) (n := j) hl1 (by omega) (fun i hi => by
          unfold cN
          rw [hys]
          simp [List.getD, List.getElem?_append_left (show i < xs.length by have := HN.out; omega)]) (by
          unfold cN
          rw [hys, HN.out]
          simp [List.getD]
          omega)
        omega
      have hyll := lengthsT_len ys
      have HIY := Lib.hid (implLengths_any v8 ys w8 (rd_owns HO8.out) (by omega))
      clear ho8 hg8 hk7 HO7 HB7 hys hky hkx s7a
      go_wp2_with fail
      refine HIY.out.mono ?_
      rintro e w9 ⟨v9, rfl, ho9, hb9⟩
      have HB9 := Lib.hid (HB8.out.trans (hb9.mono HB8.out.size))
      have hcc := Lib.hid (implCost_any v8 v9 ys (lengthsT ys) w9 (rd_below (rd_owns HO8.out) hb9) (rd_owns ho9) (by omega) (by omega))
      obtain ⟨D, hD⟩ : ∃ D, D = costT ys (lengthsT ys) := ⟨_, rfl⟩
      rw [← hD] at hcc hcy
      clear HIY ho9 hb9 hD HB8
      go_wp2_with fail
      refine hcc.out.mono ?_
      rintro e u ⟨rfl, hu⟩
      replace hu := hu.symm
      subst hu
      clear hcc
      have hCD : decide (C < D) = true := decide_eq_true hcy.out
      go_wp2
      go_ret
      exact ⟨by first | rfl | simp [hCD] | simpa using hcy.out, HB9.out⟩

set_option maxRecDepth 100000 in
theorem lifted (os : Os) (started : os.Started) (H : Type) (enc : TypeId × Value → H) :
    ReturnsInHanded {} Try.checked os 4 .any (Rows.fnFixedSpec.pre6 enc Try.prog Try.f4 Rows.fnFixedRow.domain false) (Rows.fnFixedSpec.post enc Try.prog Try.f4 false true false false) := by
  refine returnsInHanded_of_change (C := Try.checked) own started (by kernel_rfl) Try.func4
    (ChangeSpec.witness6 (enc := enc) (C := Try.checked) false ⟨#[], #[.slice none 0 0], []⟩ 8 (by kernel_rfl) (by kernel_rfl) (by kernel_rfl) (by kernel_rfl)) ?_
  intro W base args ds gs before hval0 hW hcnd _
  have hval : ∀ (j : Nat) t v, Try.f4.params[j]? = some t → args[j]? = some v → Value.okWide Try.prog W .any base t v := hval0
  have hW' := hW
  obtain ⟨p, q, hA0, hV, rfl, hfz, hnd⟩ := hW
  have hA : DataW.TrodAll enc Try.prog W 0 (fun _ => true) true Try.f4.params.toList args.toList ds p := hA0
  rw [Try.params4] at hA hval
  obtain ⟨v0, vs0, d0, ds0, p0, q0, hargs0, rfl, rfl, h0, r0⟩ := trodAll_cons hA
  obtain ⟨rfl, rfl, rfl⟩ := trodAll_nil r0
  obtain rfl : args = #[v0] := by cases args; simp_all
  obtain ⟨rfl, rfl⟩ := trodVars_none hV
  obtain ⟨a0, len0, cap0, rfl⟩ := okWide_slice Try.underlying22 (hval 0 22 v0 rfl rfl)
  have k0 := h0
  have lt0 : ∀ x ∈ p0, x.block < W.heap.size := by obtain ⟨m, hm⟩ := k0; exact DataW.trod_lt m _ _ _ hm
  obtain ⟨zs0, hr0, hs0⟩ : ∃ zs : List Int, Rd W (.slice a0 len0 cap0) (zs.map (Value.int .u8)) ∧ ((∀ n ∈ zs, (Lit.int .u8 n).wf = true) ∧ zs.length ≤ 9223372036854775807) := by
    obtain ⟨fuel, hf⟩ := h0
    rcases open_ints Try.underlying22 Try.underlying5 (by kernel_rfl) hf with ⟨hcs, _⟩ | ⟨x, l, c, zs, hcs, _, hl, hm, hz, _, hcell, hwz⟩
    · simp [Value.cells] at hcs
      obtain ⟨rfl, rfl, rfl⟩ := hcs
      exact ⟨[], ⟨none, 0, rfl, Nat.le_refl _, fun h => absurd rfl h⟩, (fun x hx => absurd hx List.not_mem_nil), Nat.zero_le _⟩
    · simp [Value.cells] at hcs
      obtain ⟨rfl, rfl, rfl⟩ := hcs
      exact arg_ints .u8 hl hm (by simpa using hz) hcell hwz
  clear hA0 hval0
  refine (walk _ zs0 W hr0 (wf_bytes hs0.1) hs0.2).mono fun e W' ⟨he, bel⟩ => ?_
  subst he
  exact ⟨_, rfl, _, _, _, [], _, [], hW', trodAll_mk1 (shut_bool Try.underlying4 _), (trodAll_cons_mk (Below.trod laidOut (by kernel_rfl) (of_decide_eq_true (by kernel_rfl)) k0 bel lt0) trodAll_mk0), rfl, bel.frame _, fun h => by cases h⟩

theorem over : Rows.fnFixedRow.holds Try.pinned (OpenSpec.ofChange Rows.fnFixedSpec) :=
  OpenClaim.holds_of_wide 4 Try.f4 rfl rfl rfl rfl rfl rfl rfl ⟨rfl, rfl, rfl, rfl, rfl⟩ rfl rfl rfl rfl rfl (by kernel_rfl) Try.func4 (by kernel_rfl)
    (of_decide_eq_true (by kernel_rfl)) (by unfold Func.isWrapper; first | (rw [if_pos (by decide +kernel)]; kernel_rfl) | (rw [if_neg (by decide +kernel)]; exact ⟨rfl, rfl⟩))
    (fun os started H enc _ => lifted os started H enc)

theorem proved : Rows.FnFixedSaid := over
end Go.Proofs.Ytiflpnmkclcimae.fnFixed
