/- FnHuffman: no lengths that Kraft allows cost less than Huffman's, and Huffman's are allowed and none too many; Lengths, Cost and Kraft answer as the specification's. For every code, without a condition. -/
import Derived.Test.YtgcpdifggjkdhabLenLaw
import Derived.Test.YtgcpdifggjkdhabLenW
import Derived.Test.YtgcpdifggjkdhabDrawsH
import Derived.Test.YtgcpdifggjkdhabLikeI
import Derived.Test.YtgcpdifggjkdhabPick
import Derived.Test.YtgcpdifggjkdhabArgs
import Derived.Deep.RegionHeld
namespace Go.Proofs.Ytgcpdifggjkdhab.fnHuffman
open Go.ChangeShapes Go.WideShapes Go.ChangeAt Go.RowKit
set_option linter.unusedVariables false
theorem slice_shape {w : World} {b : Nat} {e : TypeId} {v : Value} {n : Nat} {xs : List Value} (h : w.ownsRow b e 1 v n xs) : ∃ ao cap, v = .slice ao n cap := by
  rcases h.2 with ⟨hv, h0⟩ | ⟨g, cap, cur, hv, _⟩
  · exact ⟨none, 0, by rw [hv, h0]⟩
  · exact ⟨_, _, hv⟩
/-- what Kraft allows costs no less -/
theorem dear {c x : List Int} {C : Int} (h : allIn c 100000 = true) (hC : C = costT c (lengthsI c)) (hl : x.length = c.length) (hk : kraftB x = true) : decide (costT c x < C) = false := by
  have := costT_best h hk hl
  exact decide_eq_false (by omega)
set_option maxHeartbeats 4000000 in
set_option maxRecDepth 100000 in
theorem walk (va : Value) (bs : List Int) (w : World) (ha : Rd w va (cellsByteS bs)) (hz : Bytes bs) (hlen : bs.length ≤ 9223372036854775807) :
    Calls Try.prog 4 #[va] w fun e w' => e = .returned (.bool true) ∧ Below w.heap.size w w' := by
  by_cases hbig : 4096 < (bs.length : Int)
  · obtain ⟨ao, cap, rfl, _, _⟩ := ha
    have hla : (cellsByteS bs).length = bs.length := by simp
    rw [hla]
    go_enter Try.func4, Try.ntmps4
    go_wp2
    go_ret
    exact ⟨rfl, Below.refl _ _⟩
  have hl : bs.length ≤ 4096 := by omega
  have hbg : Calls Try.prog 7 #[va] w fun e w' => e = .returned (.bool false) ∧ w' = w := by
    obtain ⟨ao, cap, rfl, _, _⟩ := ha
    have hla : (cellsByteS bs).length = bs.length := by simp
    rw [hla]
    go_enter Try.func7, Try.ntmps7
    go_wp2
    go_ret
    exact ⟨by simp, rfl⟩
  have HZ := Lib.hid hz
  have HA := Lib.hid ha
  have HPK : Hid (∀ (seed n : Int) (W : World), Below w.heap.size w W → 0 ≤ seed → seed ≤ 1000000 → 0 < n → n ≤ 4611686018427387903 → Calls Try.prog 14 #[va, .int .i64 seed, .int .i64 n] W fun e w' => ∃ r : Int, e = .returned (.int .i64 r) ∧ 0 ≤ r ∧ r < n ∧ Below W.heap.size W w') :=
    fun seed n W hb h0 h1 h2 h3 => pick_any va bs seed n W (rd_below ha hb) hl (bytes_get hz) h0 h1 h2 h3
  clear hz hbig hlen ha
  obtain ⟨i0, hi, hz0, hz1, hz2⟩ := info_parts Try.info64
  go_enter Try.func4, Try.ntmps4
  go_wp2_with fail
  refine hbg.mono ?_
  rintro e w' ⟨rfl, hw'⟩
  replace hw' := hw'.symm
  subst hw'
  clear hbg
  go_wp2_with fail
  refine (drawLengths_any va bs w HA.out hl HZ.out).mono ?_
  rintro e w1 ⟨v1, xs, rfl, hx1, ho1, hb1⟩
  have s1 := hb1.size
  have hL32 := lengthsT_len xs
  have HIM := Lib.hid (fun va w ha => implLengths_any va xs w ha (by omega))
  have HSP := Lib.hid (fun va w ha => specLengths_any va xs w ha (by omega))
  go_wp2_with fail
  refine (HIM.out v1 w1 (rd_owns ho1)).mono ?_
  rintro e w2 ⟨v2, rfl, ho2, hb2⟩
  have s2 := hb2.size
  have hB2 := hb1.trans (hb2.mono s1)
  have ho12 := owns_below ho1 hb2
  clear hb1 hb2 ho1 HIM
  go_wp2_with fail
  refine (drawCost_any va bs w2 (rd_below HA.out hB2) hl HZ.out).mono ?_
  rintro e w3 ⟨v3, u3, cs, ls, rfl, has, hls, hoa, hob, hb3⟩
  have s3 := hb3.size
  have hB3 := hB2.trans (hb3.mono (by omega))
  have ho13 := owns_below ho12 hb3
  have ho23 := owns_below ho2 hb3
  clear hB2 hb3 ho12 ho2
  go_wp2_with fail
  refine (drawKraft_any va bs w3 (rd_below HA.out hB3) hl HZ.out).mono ?_
  rintro e w4 ⟨v4, ks, rfl, hks, hok, hb4⟩
  have s4 := hb4.size
  have hB4 := hB3.trans (hb4.mono (by omega))
  have ho14 := owns_below ho13 hb4
  have ho24 := owns_below ho23 hb4
  have hoa4 := owns_below hoa hb4
  have hob4 := owns_below hob hb4
  clear hB3 hb4 ho13 ho23 hoa hob
  go_wp2_with fail
  refine (HSP.out v1 w4 (rd_owns ho14)).mono ?_
  rintro e w5 ⟨v5, rfl, ho5, hb5⟩
  have s5 := hb5.size
  have hB5 := hB4.trans (hb5.mono (by omega))
  have ho15 := owns_below ho14 hb5
  have ho25 := owns_below ho24 hb5
  have hoa5 := owns_below hoa4 hb5
  have hob5 := owns_below hob4 hb5
  have hok5 := owns_below hok hb5
  clear hB4 hb5 ho14 ho24 hoa4 hob4 hok HSP
  go_wp2_with fail
  refine (likeInts_any v2 v5 _ _ w5 (rd_owns ho25) (rd_owns ho5) (by omega) (by omega)).mono ?_
  rintro e w6 ⟨rfl, hb6⟩
  rw [decide_eq_true rfl]
  have s6 := hb6.size
  have hB6 := hB5.trans (hb6.mono (by omega))
  have ho16 := owns_below ho15 hb6
  have ho26 := owns_below ho25 hb6
  have hoa6 := owns_below hoa5 hb6
  have hob6 := owns_below hob5 hb6
  have hok6 := owns_below hok5 hb6
  clear hB5 hb6 ho15 ho25 hoa5 hob5 hok5 ho5
  have hc1 := Lib.hid (implCost_any v3 u3 cs ls w6 (rd_owns hoa6) (rd_owns hob6) (by omega) (by omega))
  have hc2 := Lib.hid (specCost_any v3 u3 cs ls w6 (rd_owns hoa6) (rd_owns hob6) (by omega) (by omega))
  have hk1 := Lib.hid (fun W h => implKraft_any v4 ks W (rd_owns (owns_below (w' := W) hok6 h)) (by omega))
  have hk2 := Lib.hid (fun W h => specKraft_any v4 ks W (rd_owns (owns_below (w' := W) hok6 h)) (by omega))
  obtain ⟨C0, hC0⟩ : ∃ C0, C0 = costT cs ls := ⟨_, rfl⟩
  obtain ⟨k0, hk0⟩ : ∃ k0, k0 = kraftB ks := ⟨_, rfl⟩
  rw [← hC0] at hc1 hc2
  rw [← hk0] at hk1 hk2
  have q0 : (C0 != C0) = false := by simp
  have q1 : (k0 != k0) = false := by simp
  clear hC0 hk0 hoa6 hob6 hok6
  go_wp2_with fail
  refine hc1.out.mono ?_
  rintro e u ⟨rfl, hu⟩
  replace hu := hu.symm
  subst hu
  clear hc1
  go_wp2_with fail
  refine hc2.out.mono ?_
  rintro e w7 ⟨rfl, d7, hd7⟩
  have hb7 : Below w6.heap.size w6 w7 := by rw [hd7]; exact below_drewN (Below.refl _ _) _
  have s7 := hb7.size
  have HB7 := Lib.hid (hB6.trans (hb7.mono (by omega)))
  have ho17 := owns_below ho16 hb7
  have ho27 := owns_below ho26 hb7
  have hk17 := Lib.hid (hk1.out w7 hb7)
  have hk27 := Lib.hid (hk2.out w7 hb7)
  clear hc2 hd7 hb7 hk1 hk2 ho16 ho26 hB6
  go_wp2_with fail
  refine hk17.out.mono ?_
  rintro e u ⟨rfl, hu⟩
  replace hu := hu.symm
  subst hu
  clear hk17
  go_wp2_with fail
  refine hk27.out.mono ?_
  rintro e u ⟨rfl, hu⟩
  replace hu := hu.symm
  subst hu
  clear hk27
  cases hkb : allIn xs 100000
  focus
    have e0 : lengthsT xs = [] := by unfold lengthsT; rw [if_neg (by rw [hkb]; simp)]
    rw [e0] at ho27
    obtain ⟨ao2, cap2, rfl⟩ := slice_shape ho27
    have hcm : Hid (∀ z, costT xs z = -1) := fun z => costT_no (fun h => by rw [hkb] at h; cases h.1)
    have HO17 := Lib.hid ho17
    have hrd := Lib.hid (rd_owns ho17)
    obtain ⟨ao1, cap1, rfl⟩ := slice_shape ho17
    clear hkb e0 ho27 hL32 ho17
    obtain ⟨n, hn⟩ : ∃ n, n = xs.length := ⟨_, rfl⟩
    have HN := Lib.hid hn
    rw [← hn] at hx1 hrd HO17 ⊢
    clear hn
    by_cases hn1 : n < 1
    focus
      have hI : (n : Int) < 1 := by omega
      go_wp2
      go_ret
      exact ⟨by first | rfl | simp, HB7.out⟩
    by_cases hn2 : 32 < n
    focus
      have hI : ¬ (n : Int) < 1 := by omega
      have hI2 : 32 < (n : Int) := by omega
      go_wp2
      go_ret
      exact ⟨by first | rfl | simp, HB7.out⟩
    have hI : ¬ (n : Int) < 1 := by omega
    have hI2 : ¬ 32 < (n : Int) := by omega
    have hmk : ∀ W : World, (Instr.makeSlice 28 (.int .i64 (n : Int)) (.int .i64 (n : Int))).run Try.prog W = .ok (.slice (some ⟨W.heap.size, 0, none⟩) n n) (W.alloc (.cells (madeCells (Value.int .i64 0).cells (((n : Nat) : Int).toNat * i0.size)) 2)) := fun W => by
      have h := run_make (P := Try.prog) W 28 2 i0 (.int .i64 0) Try.underlying28 hi hz0 .i64 .i64 (n : Int) (n : Int) (by omega) (by omega) (by rw [hz2]; omega) (by omega)
      simpa using h
    obtain ⟨M, hMM⟩ : ∃ M, M = madeCells (Value.int .i64 0).cells (((n : Nat) : Int).toNat * i0.size) := ⟨_, rfl⟩
    rw [← hMM] at hmk
    have hMl : M.toList = cellsInt64S (List.replicate n 0) := by
      rw [hMM, hz1, cellsInt64S, List.map_replicate, Int.toNat_natCast, Nat.mul_one]
      exact toList_madeCells_one (.int .i64 0) n
    have hb8 : Below w7.heap.size w7 (w7.alloc (.cells M 2)) := (Below.refl _ _).alloc (Nat.le_refl _) _
    have ho8 : (w7.alloc (.cells M 2)).ownsRow w7.heap.size 2 1 (.slice (some ⟨w7.heap.size, 0, none⟩) n n) n (cellsInt64S (List.replicate n 0)) := by
      have h : (w7.alloc (.cells M 2)).ownsRow w7.heap.size 2 1 (.slice (some ⟨w7.heap.size, 0, none⟩) n n) n M.toList := World.ownsRow_lit w7 M n (Nat.le_refl _) (by unfold maxLen; omega) (by rw [← Array.length_toList, hMl]; simp)
      rw [hMl] at h
      exact h
    have hrd8 := rd_owns ho8
    have hrd1 := rd_below hrd.out hb8
    obtain ⟨w8, hw8⟩ : ∃ w8, w8 = w7.alloc (.cells M 2) := ⟨_, rfl⟩
    rw [← hw8] at hrd8 hrd1
    have hcc := Lib.hid (implCost_any _ _ xs (List.replicate n 0) w8 hrd1 hrd8 (by have := HN.out; omega) (by simp; omega))
    rw [hcm.out] at hcc
    rw [hw8] at hcc
    have HB8 := Lib.hid (HB7.out.trans (hb8.mono HB7.out.size))
    clear ho8 hb8 hrd8 hrd1 hrd HB7 HO17 hMl hMM hw8
    go_wp2_with fail
    refine hcc.out.mono ?_
    rintro e u ⟨rfl, hu⟩
    replace hu := hu.symm
    subst hu
    clear hcc
    go_wp2
    go_ret
    exact ⟨by first | rfl | simp, HB8.out⟩
  obtain ⟨⟨hl1, hl32⟩, hall⟩ := allIn_out hkb
  rw [lengthsT_in hkb, lengthsI_len] at ho27
  obtain ⟨L, hL⟩ : ∃ L, L = lengthsI xs := ⟨_, rfl⟩
  have hLl : L.length = xs.length := by rw [hL]; exact lengthsI_len xs
  have hLb : Hid (∀ i, i < xs.length → 1 ≤ L.getD i 0 ∧ L.getD i 0 ≤ 40) := fun i hi => by
    have h := (allIn_out (lengthsI_40 hkb)).2 i (by rw [lengthsI_len]; exact hi)
    rw [← hL] at h
    exact h
  have hka := Lib.hid (implKraft_any v2 (lengthsI xs) w7 (rd_owns ho27) (by rw [lengthsI_len]; omega))
  rw [kraftB_own hkb] at hka
  obtain ⟨C, hC⟩ : ∃ C, C = costT xs (lengthsI xs) := ⟨_, rfl⟩
  have hCn : 0 ≤ C := by rw [hC, costT_own hkb]; omega
  have hca := Lib.hid (implCost_any v1 v2 xs (lengthsI xs) w7 (rd_owns ho17) (rd_owns ho27) (by omega) (by rw [lengthsI_len]; omega))
  rw [← hC] at hca
  have HDEAR : Hid (∀ x, x.length = xs.length → kraftB x = true → decide (costT xs x < C) = false) := fun x h1 h2 => dear hkb hC h1 h2
  rw [← hL] at ho27
  have HCX : Hid (∀ (v : Value) (x : List Int) (W : World), Below w7.heap.size w7 W → Rd W v (cellsInt64S x) → x.length ≤ 32 → Calls Try.prog 23 #[v1, v] W fun e w' => e = .returned (.int .i64 (costT xs x)) ∧ w' = W) :=
    fun v x W hb hv hx => implCost_any v1 v xs x W (rd_owns (owns_below ho17 hb)) hv (by omega) (by omega)
  have hC0 : decide (C < 0) = false := decide_eq_false (by omega)
  have hll1 : (cellsInt64S L).length = xs.length := by simp [hLl]
  obtain ⟨g1, cap1, rfl, hg1⟩ := owns_head ho17 (by omega)
  obtain ⟨g2, cap2, rfl, hg2⟩ := owns_head ho27 (by omega)
  have hcells2 : Hid (∀ i, i < xs.length → w7.cell? ⟨g2, i, none⟩ = some (.int .i64 (L.getD i 0))) := fun i hi => by
    have h := ho27.cellAt i (by omega)
    rw [h, ints_get _ _ i (by omega)]
  have hlt2 : g2 < w7.heap.size := (ho27.lt g2 rfl).2
  clear hC hL hkb hall hL32
  obtain ⟨n, hn⟩ : ∃ n, n = xs.length := ⟨_, rfl⟩
  rw [← hn] at hl1 hl32 hx1 hLl hLb HDEAR hcells2 hll1 hca hka HCX ⊢
  have HN := Lib.hid hn
  have HLL := Lib.hid hLl
  have HLL1 := Lib.hid hll1
  clear hn ho17 ho27 hLl hll1
  go_wp2_with fail
  refine hca.out.mono ?_
  rintro e u ⟨rfl, hu⟩
  replace hu := hu.symm
  subst hu
  clear hca
  go_wp2_with fail
  refine hka.out.mono ?_
  rintro e u ⟨rfl, hu⟩
  replace hu := hu.symm
  subst hu
  clear hka
  go_wp2
  go_loopw [9] (fun i wr => ∃ k : Nat, i = .int .i64 k ∧ k ≤ 30 ∧ Hid (Below w7.heap.size w7 wr)) (fun i _ => 30 - (intOf i).toNat)
  case atStart => exact ⟨0, rfl, by omega, Below.refl _ _⟩
  case round =>
    rename World => w8
    obtain ⟨k, rfl, hk, hb⟩ := hrel
    have hs8 := hb.out.size
    have hsw : w.heap.size ≤ w7.heap.size := HB7.out.size
    by_cases hlt : k < 30
    focus
      have hltI : (k : Int) < 30 := by omega
      have hltD : decide ((k : Int) < 30) = true := decide_eq_true hltI
      have hmade : (w8.alloc (.cells #[] 2)).ownsRow w8.heap.size 2 1 (.slice (some ⟨w8.heap.size, 0, none⟩) 0 0) 0 (cellsInt64S []) := World.ownsRow_lit w8 #[] 0 (Nat.le_refl _) (Nat.zero_le _) rfl
      have hba : Hid (Below w7.heap.size w7 (w8.alloc (.cells #[] 2))) := hb.out.alloc hs8 _
      have hsa := World.size_alloc w8 (.cells #[] 2)
      go_wp2
      go_loopw [10, 11] (fun x i wr => ∃ (m : Nat) (ys : List Int), i = .int .i64 m ∧ m ≤ n ∧ ys.length = m ∧ wr.ownsRow w8.heap.size 2 1 x m (cellsInt64S ys) ∧ Hid (Below w7.heap.size w7 wr) ∧ w8.heap.size + 1 ≤ wr.heap.size) (fun _ i _ => n - (intOf i).toNat)
      case atStart => exact ⟨0, [], rfl, Nat.zero_le _, rfl, hmade, hba, by omega⟩
      case round =>
        rename World => w9
        obtain ⟨m, ys, rfl, hm, hym, ho, hb9, hs9⟩ := hrel
        clear hmade hba hsa
        have hs79 := hb9.out.size
        by_cases hlm : m < n
        focus
          go_wp2_with fail
          refine (HPK.out _ 7 w9 (HB7.out.trans (hb9.out.mono hsw)) (by omega) (by omega) (by omega) (by omega)).mono ?_
          rintro e w10 ⟨r, rfl, hr0, hr7, hb10⟩
          have hs10 := hb10.size
          have ho10 := owns_below ho hb10
          have HB10 := Lib.hid (hb9.out.trans (hb10.mono hs79))
          clear ho hb10 hb9
          go_wp2_with (at_builtin; refine wpList_append_own _ rfl _ _ 28 rfl w8.heap.size 2 i0 (.int .i64 0) 1 8 Try.underlying28 hi hz0 hz1 hz2 rfl (by decide) _ _ _ rfl (ho10.alloc _) ⟨w10.heap.size, 0, none⟩ 1 1 [.int .i64 (1 + r)] rfl rfl ?c1 ?c2 ?c3 ?c4 ?c5 ?_)
          case c1 => exact one_cell w10 .i64 _ _
          case c2 => exact ints_oneCell .i64 [1 + r]
          case c3 => unfold maxLen; omega
          case c4 => omega
          case c5 => simp; omega
          intro v11 w11 ho11 hg11 _
          have hs11 := hg11.size
          rw [World.size_alloc] at hs11
          have HB11 : Hid (Below w7.heap.size w7 w11) := (HB10.out.alloc (by omega) _).grown hg11 (by rw [World.size_alloc]; omega) (fun g h => by have := (ho10.lt g h).1; omega)
          have ho12 : w11.ownsRow w8.heap.size 2 1 v11 (m + 1) (cellsInt64S (ys ++ [1 + r])) := by
            rw [cellsInt64S, List.map_append]
            exact ho11
          clear ho11 hg11 ho10 HB10
          go_wp2
          go_roundw
          case rel => exact ⟨m + 1, ys ++ [1 + r], by go_num, by omega, by rw [List.length_append, hym]; rfl, ho12, HB11, by omega⟩
          case measure => simp [intOf]; omega
        obtain rfl : m = n := by omega
        have hkx := Lib.hid (implKraft_any _ ys w9 (rd_owns ho) (by omega))
        have hcx := Lib.hid (HCX.out _ ys w9 hb9.out (rd_owns ho) (by omega))
        have hdx : Hid (kraftB ys = true → decide (costT xs ys < C) = false) := fun h => HDEAR.out ys hym h
        clear ho
        cases hkb : kraftB ys
        focus
          rw [hkb] at hkx
          clear hcx hdx hkb
          go_wp2_with fail
          refine hkx.out.mono ?_
          rintro e u ⟨rfl, hu⟩
          replace hu := hu.symm
          subst hu
          clear hkx
        rotate_left
        focus
          rw [hkb] at hkx
          have hdx2 := hdx.out hkb
          obtain ⟨D, hD⟩ : ∃ D, D = costT xs ys := ⟨_, rfl⟩
          rw [← hD] at hcx hdx2
          clear hdx hkb hD
          go_wp2_with fail
          refine hkx.out.mono ?_
          rintro e u ⟨rfl, hu⟩
          replace hu := hu.symm
          subst hu
          clear hkx
          go_wp2_with fail
          refine hcx.out.mono ?_
          rintro e u ⟨rfl, hu⟩
          replace hu := hu.symm
          subst hu
          clear hcx
        all_goals
          have hcs9 : Hid (∀ i, i < m → w9.cell? ⟨g2, i, none⟩ = some (.int .i64 (L.getD i 0))) := fun i hi => (hb9.out.cell (p := ⟨g2, i, none⟩) hlt2).trans (hcells2.out i hi)
          have hba9 : Hid (Below w7.heap.size w7 (w9.alloc (.cells #[] 2))) := hb9.out.alloc (by omega) _
          have hsa9 := World.size_alloc w9 (.cells #[] 2)
          go_wp2_with (at_builtin; refine wpList_append_own _ rfl _ _ 28 rfl w9.heap.size 2 i0 (.int .i64 0) 1 8 Try.underlying28 hi hz0 hz1 hz2 rfl (by decide) (.slice (some ⟨w9.heap.size, 0, none⟩) 0 0) 0 [] rfl ?b0 ⟨g2, 0, none⟩ m cap2 (cellsInt64S L) rfl ?b1 ?b2 ?b3 ?b4 ?b5 ?b6 ?_)
          case b0 => exact World.ownsRow_lit w9 #[] 0 (Nat.le_refl _) (Nat.zero_le _) rfl
          case b1 => rw [HLL1.out, Nat.mul_one]
          case b2 =>
            intro q u hq
            have hql : q < m := by
              have h := (List.getElem?_eq_some_iff.1 hq).1
              rwa [HLL1.out] at h
            rw [Addr.add_mid, Nat.zero_add, ← hq, ints_get _ _ q (by have := HLL.out; omega), ← hcs9.out q hql]
            exact ((Below.refl w9.heap.size w9).alloc (Nat.le_refl _) _).cell (p := ⟨g2, q, none⟩) (Nat.lt_of_lt_of_le hlt2 hs79)
          case b3 => exact ints_oneCell .i64 L
          case b4 => unfold maxLen; omega
          case b5 => omega
          case b6 => rw [hsa9]; omega
          intro v10 w10 ho10 hg10 _
          have hs10 := hg10.size
          rw [hsa9] at hs10
          have HB10 : Hid (Below w7.heap.size w7 w10) := hba9.out.grown hg10 (by rw [hsa9]; omega) (fun q hq => by cases hq; omega)
          have ho10' : w10.ownsRow w9.heap.size 2 1 v10 m (cellsInt64S L) := by simpa using ho10
          clear ho10 hg10 hba9 hcs9 hsa9 hb9
          obtain ⟨g6, cap6, rfl, hg6⟩ := owns_head ho10' (by omega)
          have hg6b := (ho10'.lt g6 rfl).1
          go_wp2_with fail
          refine (HPK.out _ (m : Int) w10 (HB7.out.trans (HB10.out.mono hsw)) (by omega) (by omega) (by omega) (by omega)).mono ?_
          rintro e w11 ⟨p, rfl, hp0, hpm, hb11⟩
          obtain ⟨p, rfl⟩ := Int.eq_ofNat_of_zero_le hp0
          have ho11 := owns_below ho10' hb11
          have HB11 := Lib.hid (HB10.out.trans (hb11.mono HB10.out.size))
          have hs11 := hb11.size
          clear ho10' HB10 hb11 hp0
          go_wp2_with fail
          refine (HPK.out _ (m : Int) w11 (HB7.out.trans (HB11.out.mono hsw)) (by omega) (by omega) (by omega) (by omega)).mono ?_
          rintro e w12 ⟨q, rfl, hq0, hqm, hb12⟩
          obtain ⟨q, rfl⟩ := Int.eq_ofNat_of_zero_le hq0
          have ho12 := owns_below ho11 hb12
          have HB12 := Lib.hid (HB11.out.trans (hb12.mono HB11.out.size))
          have hs12 := hb12.size
          clear ho11 HB11 hb12 hq0
          obtain ⟨y, hy⟩ : ∃ y, y = L.getD p 0 := ⟨_, rfl⟩
          have hyb := hLb.out p (by omega)
          rw [← hy] at hyb
          have hyc : w12.cell? ⟨g6, p, none⟩ = some (.int .i64 y) := by
            rw [ho12.cellAt p (by omega), ints_get _ _ p (by have := HLL.out; omega), hy]
          have hyf := ho12.frozenAt p
          have hst := ho12.stored p (.int .i64 (y - 1))
          have hset : (cellsInt64S L).set p (.int .i64 (y - 1)) = cellsInt64S (L.set p (y - 1)) := by simp [cellsInt64S, List.map_set]
          rw [hset] at hst
          have HST := Lib.hid hst
          have hL1b : Hid (∀ i, i < m → 0 ≤ (L.set p (y - 1)).getD i 0 ∧ (L.set p (y - 1)).getD i 0 ≤ 40) := fun i hi => by
            have h := hLb.out i hi
            by_cases e : i = p
            · subst e
              simp [List.getD, show i < L.length by have := HLL.out; omega]
              omega
            · simp [List.getD, List.getElem?_set_ne (Ne.symm e)] at h ⊢
              omega
          have HL1 : Hid ((L.set p (y - 1)).length = m) := by
            show _ = _
            rw [List.length_set, HLL.out]
          generalize L.set p (y - 1) = L1 at HST hL1b HL1
          clear ho12 hset hst hy
          go_wp2
          obtain ⟨w13, hw13⟩ : ∃ w13, w13 = w12.setCell ⟨g6, p, none⟩ (.int .i64 (y - 1)) := ⟨_, rfl⟩
          rw [← hw13] at HST ⊢
          clear hw13
          have ho13 := HST.out.1
          have HB13 : Hid (Below w7.heap.size w7 w13) := HB12.out.grown HST.out.2 HB12.out.size (fun g h => by cases h; omega)
          have hs13 := HST.out.2.size
          obtain ⟨z, hz⟩ : ∃ z, z = L1.getD q 0 := ⟨_, rfl⟩
          have hzb := hL1b.out q (by omega)
          rw [← hz] at hzb
          have hzc : w13.cell? ⟨g6, q, none⟩ = some (.int .i64 z) := by
            rw [ho13.cellAt q (by omega), ints_get _ _ q (by have := HL1.out; omega), hz]
          have hzf := ho13.frozenAt q
          have HO13 := Lib.hid ho13
          have HZ1 := Lib.hid hz
          have HPK2 : Hid (∀ W, Below w13.heap.size w13 W → Calls Try.prog 14 #[va, .int .i64 (IntKind.i64.wrap (9000 + (k : Int))), .int .i64 2] W fun e w' => ∃ r : Int, e = .returned (.int .i64 r) ∧ 0 ≤ r ∧ r < 2 ∧ Below w13.heap.size w13 w' ∧ w'.cell? ⟨g6, q, none⟩ = some (.int .i64 z) ∧ w'.frozen? ⟨g6, q, none⟩ = false) := fun W hW => by
            rw [IntWalk.i64_in (9000 + (k : Int)) ⟨by omega, by omega⟩]
            refine (HPK.out _ 2 W (HB7.out.trans ((HB13.out.trans (hW.mono HB13.out.size)).mono hsw)) (by omega) (by omega) (by omega) (by omega)).mono ?_
            rintro e w' ⟨r, rfl, h0, h2, hb⟩
            have hbb := hW.trans (hb.mono hW.size)
            exact ⟨r, rfl, h0, h2, hbb, (hbb.cell (p := ⟨g6, q, none⟩) (HO13.out.lt g6 rfl).2).trans hzc, (hbb.frozen (p := ⟨g6, q, none⟩) (HO13.out.lt g6 rfl).2).trans hzf⟩
          have HPKa := Lib.hid (HPK2.out w13 (Below.refl _ _))
          have HPKb := Lib.hid (HPK2.out w13.drew (Below.refl _ _).drew)
          have HPKc := Lib.hid (fun d => HPK2.out (w13.drewN d) (below_drewN (Below.refl _ _) d))
          clear hyc hyf HST HB12 ho13 hz HPK2
          go_region_with (first | (go_at_call 14; (first | (refine HPKa.out.mono ?_) | (refine HPKb.out.mono ?_) | (refine (HPKc.out _).mono ?_)); rintro e w14 ⟨r, rfl, hr0, hr2, hb14, hzc2, hzf2⟩; have hwz : IntKind.i64.wrap (z + r) = z + r := IntWalk.i64_in _ ⟨by omega, by omega⟩))
          all_goals
            have hst := (owns_below HO13.out hb14).stored q (.int .i64 (z + r))
            have hset : (cellsInt64S L1).set q (.int .i64 (z + r)) = cellsInt64S (L1.set q (z + r)) := by simp [cellsInt64S, List.map_set]
            rw [hset] at hst
            have HL2 : (L1.set q (z + r)).length = m := by rw [List.length_set, HL1.out]
            generalize L1.set q (z + r) = L2 at hst HL2
            obtain ⟨w15, hw15⟩ : ∃ w15, w15 = w14.setCell ⟨g6, q, none⟩ (.int .i64 (z + r)) := ⟨_, rfl⟩
            rw [← hw15] at hst ⊢
            clear hw15 hset
            have hb15 : Below w7.heap.size w7 w15 := (HB13.out.trans (hb14.mono HB13.out.size)).grown hst.2 (by have := HB13.out.size; have := hb14.size; omega) (fun g h => by cases h; omega)
            have hky := Lib.hid (implKraft_any _ L2 w15 (rd_owns hst.1) (by omega))
            have hcy := Lib.hid (HCX.out _ L2 w15 hb15 (rd_owns hst.1) (by omega))
            have hdy : Hid (kraftB L2 = true → decide (costT xs L2 < C) = false) := fun h => HDEAR.out L2 HL2 h
            have HB15 := Lib.hid hb15
            clear hst hb15 HO13 HB13 hb14 hzc hzc2 hzf hzf2 hwz HPKa HPKb HPKc HZ1 hL1b HL1 HL2 hyb hzb
            cases hkb2 : kraftB L2
            focus
              rw [hkb2] at hky
              clear hcy hdy hkb2
              go_wp2_with fail
              refine hky.out.mono ?_
              rintro e u ⟨rfl, hu⟩
              replace hu := hu.symm
              subst hu
              clear hky
              go_wp2
              go_roundw
              case rel => exact ⟨k + 1, by go_num, by omega, HB15⟩
              case measure => simp [intOf]; omega
            rw [hkb2] at hky
            have hdy2 := hdy.out hkb2
            obtain ⟨D, hD⟩ : ∃ D, D = costT xs L2 := ⟨_, rfl⟩
            rw [← hD] at hcy hdy2
            clear hdy hkb2 hD
            by_cases hD0 : 0 ≤ D
            focus
              have hD1 : decide (0 ≤ D) = true := decide_eq_true hD0
              go_wp2_with fail
              refine hky.out.mono ?_
              rintro e u ⟨rfl, hu⟩
              replace hu := hu.symm
              subst hu
              clear hky
              go_wp2_with fail
              refine hcy.out.mono ?_
              rintro e u ⟨rfl, hu⟩
              replace hu := hu.symm
              subst hu
              go_wp2_with fail
              refine hcy.out.mono ?_
              rintro e u ⟨rfl, hu⟩
              replace hu := hu.symm
              subst hu
              clear hcy
              go_wp2
              go_roundw
              case rel => exact ⟨k + 1, by go_num, by omega, HB15⟩
              case measure => simp [intOf]; omega
            have hD1 : decide (0 ≤ D) = false := decide_eq_false hD0
            go_wp2_with fail
            refine hky.out.mono ?_
            rintro e u ⟨rfl, hu⟩
            replace hu := hu.symm
            subst hu
            clear hky
            go_wp2_with fail
            refine hcy.out.mono ?_
            rintro e u ⟨rfl, hu⟩
            replace hu := hu.symm
            subst hu
            clear hcy
            go_wp2
            go_roundw
            case rel => exact ⟨k + 1, by go_num, by omega, HB15⟩
            case measure => simp [intOf]; omega
    have hltI : ¬ (k : Int) < 30 := by omega
    have hltD : decide ((k : Int) < 30) = false := decide_eq_false hltI
    have HE := HB7.out.trans (hb.out.mono hsw)
    go_wp2
    go_ret
    exact ⟨by first | rfl | simp, HE⟩

set_option maxRecDepth 100000 in
theorem lifted (os : Os) (started : os.Started) (H : Type) (enc : TypeId × Value → H) :
    ReturnsInHanded {} Try.checked os 4 .any (Rows.fnHuffmanSpec.pre6 enc Try.prog Try.f4 Rows.fnHuffmanRow.domain false) (Rows.fnHuffmanSpec.post enc Try.prog Try.f4 false true false false) := by
  refine returnsInHanded_of_change (C := Try.checked) own started (by kernel_rfl) Try.func4
    (ChangeSpec.witness6 (enc := enc) (C := Try.checked) false ⟨#[], #[.slice none 0 0], []⟩ 8 (by kernel_rfl) (by kernel_rfl) (by kernel_rfl) (by kernel_rfl)) ?_
  intro W base args ds gs before hval0 hW hcnd _
  have hval : ∀ (j : Nat) t v, Try.f4.params[j]? = some t → args[j]? = some v → Value.okWide Try.prog W .any base t v := hval0
  have hW' := hW
  obtain ⟨p, q, hA0, hV, rfl, hfz, hnd⟩ := hW
  have hA : DataW.TrodAll enc Try.prog W 0 (fun _ => true) true Try.f4.params.toList args.toList ds p := hA0
  rw [Try.params4] at hA hval
  obtain ⟨v0, vs0, d0, ds0, p0, q0, hargs0, rfl, rfl, h0, r0⟩ := trodAll_cons hA
  obtain ⟨rfl, rfl, rfl⟩ := trodAll_nil r0
  obtain rfl : args = #[v0] := by cases args; simp_all
  obtain ⟨rfl, rfl⟩ := trodVars_none hV
  obtain ⟨a0, len0, cap0, rfl⟩ := okWide_slice Try.underlying22 (hval 0 22 v0 rfl rfl)
  have k0 := h0
  have lt0 : ∀ x ∈ p0, x.block < W.heap.size := by obtain ⟨m, hm⟩ := k0; exact DataW.trod_lt m _ _ _ hm
  obtain ⟨zs0, hr0, hs0⟩ : ∃ zs : List Int, Rd W (.slice a0 len0 cap0) (zs.map (Value.int .u8)) ∧ ((∀ n ∈ zs, (Lit.int .u8 n).wf = true) ∧ zs.length ≤ 9223372036854775807) := by
    obtain ⟨fuel, hf⟩ := h0
    rcases open_ints Try.underlying22 Try.underlying5 (by kernel_rfl) hf with ⟨hcs, _⟩ | ⟨x, l, c, zs, hcs, _, hl, hm, hz, _, hcell, hwz⟩
    · simp [Value.cells] at hcs
      obtain ⟨rfl, rfl, rfl⟩ := hcs
      exact ⟨[], ⟨none, 0, rfl, Nat.le_refl _, fun h => absurd rfl h⟩, (fun x hx => absurd hx List.not_mem_nil), Nat.zero_le _⟩
    · simp [Value.cells] at hcs
      obtain ⟨rfl, rfl, rfl⟩ := hcs
      exact arg_ints .u8 hl hm (by simpa using hz) hcell hwz
  clear hA0 hval0
  refine (walk _ zs0 W hr0 (wf_bytes hs0.1) hs0.2).mono fun e W' ⟨he, bel⟩ => ?_
  subst he
  exact ⟨_, rfl, _, _, _, [], _, [], hW', trodAll_mk1 (shut_bool Try.underlying4 _), (trodAll_cons_mk (Below.trod laidOut (by kernel_rfl) (of_decide_eq_true (by kernel_rfl)) k0 bel lt0) trodAll_mk0), rfl, bel.frame _, fun h => by cases h⟩

theorem over : Rows.fnHuffmanRow.holds Try.pinned (OpenSpec.ofChange Rows.fnHuffmanSpec) :=
  OpenClaim.holds_of_wide 4 Try.f4 rfl rfl rfl rfl rfl rfl rfl ⟨rfl, rfl, rfl, rfl, rfl⟩ rfl rfl rfl rfl rfl (by kernel_rfl) Try.func4 (by kernel_rfl)
    (of_decide_eq_true (by kernel_rfl)) (by unfold Func.isWrapper; first | (rw [if_pos (by decide +kernel)]; kernel_rfl) | (rw [if_neg (by decide +kernel)]; exact ⟨rfl, rfl⟩))
    (fun os started H enc _ => lifted os started H enc)

theorem proved : Rows.FnHuffmanSaid := over
end Go.Proofs.Ytgcpdifggjkdhab.fnHuffman
