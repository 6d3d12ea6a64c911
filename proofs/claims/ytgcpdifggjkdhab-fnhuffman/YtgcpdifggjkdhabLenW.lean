/- CONTRACTS: impl.Lengths, the walk. -/
import Derived.Test.YtgcpdifggjkdhabLenI
namespace Go.Proofs.Ytgcpdifggjkdhab
open Go.RowKit
set_option linter.unusedVariables false
theorem hp6_new (w : World) : Hp6 w.heap.size 0 [] (w.alloc (.cells #[.slice none 0 0] 69)) :=
  ⟨[], [], ⟨⟨_, heap_alloc_new w _, World.ownsRow_nil _ _ _ _⟩, rfl⟩, fun k h1 h2 => by omega, List.Perm.refl _, rfl, fun p hp => by cases hp⟩
set_option maxHeartbeats 4000000 in
set_option maxRecDepth 100000 in
theorem implLengths_any (va : Value) (c : List Int) (w : World) (ha : Rd w va (cellsInt64S c)) (hll : c.length ≤ 1099511627776) :
    Calls Try.prog 18 #[va] w fun e w' => ∃ v, e = .returned v ∧ w'.ownsRow w.heap.size 2 1 v (lengthsT c).length (cellsInt64S (lengthsT c)) ∧ Below w.heap.size w w' := by
  obtain ⟨i0, hi, hz0, hz1, hz2⟩ := info_parts Try.info64
  have H1 := areFew_any va c 100000 w ha hll (by decide) (by decide)
  cases hkb : allIn c 100000
  focus
    have e : lengthsT c = [] := by unfold lengthsT; rw [if_neg (by rw [hkb]; simp)]
    rw [hkb] at H1
    rw [e]
    have hB := Below.refl w.heap.size w
    have ho : w.ownsRow w.heap.size 2 1 (.slice none 0 0) 0 (cellsInt64S []) := World.ownsRow_nil _ _ _ _
    have hlA : (cellsInt64S c).length = c.length := by simp
    obtain ⟨ao, cap, rfl, _, _⟩ := ha
    rw [hlA] at H1 ⊢
    generalize c.length = n at H1 hll ⊢
    clear hkb e hlA
    go_enter Try.func18, Try.ntmps18
    go_wp2_with fail
    refine H1.mono ?_
    rintro e u ⟨rfl, hu⟩
    replace hu := hu.symm
    subst hu
    clear H1
    go_wp2
    go_ret
    exact ⟨_, rfl, ho, hB⟩
  obtain ⟨⟨hl1, hl32⟩, hall⟩ := allIn_out hkb
  have e : lengthsT c = lengthsI c := by unfold lengthsT; rw [if_pos hkb]
  rw [hkb] at H1
  rw [e]
  by_cases hn1 : c.length = 1
  focus
    have e1 : lengthsI c = [1] := by
      unfold lengthsI Huff.lenD
      rw [if_pos hn1, hn1]
      rfl
    rw [e1]
    have hB := (Below.refl w.heap.size w).alloc (Nat.le_refl _) (.cells #[.int .i64 1] 2)
    have ho : (w.alloc (.cells #[.int .i64 1] 2)).ownsRow w.heap.size 2 1 (.slice (some ⟨w.heap.size, 0, none⟩) 1 1) 1 (cellsInt64S [1]) := World.ownsRow_lit w #[.int .i64 1] 1 (Nat.le_refl _) (by unfold maxLen; omega) rfl
    have hlA : (cellsInt64S c).length = 1 := by simp [hn1]
    obtain ⟨ao, cap, rfl, _, _⟩ := ha
    rw [hlA] at H1 ⊢
    clear hkb e e1
    go_enter Try.func18, Try.ntmps18
    go_wp2_with fail
    refine H1.mono ?_
    rintro e u ⟨rfl, hu⟩
    replace hu := hu.symm
    subst hu
    clear H1
    go_wp2
    go_ret
    exact ⟨_, rfl, ho, hB⟩
  have hcN : rowF (cN c) c.length = c := rowF_cN fun i hi => by have := hall i hi; omega
  have hcB : ∀ i, i < c.length → cN c i ≤ 100000 := fun i hi => by have := hall i hi; unfold cN; omega
  have hLI : lengthsI c = rowF (Huff.huff c.length (Huff.gstart (cN c) c.length) fun _ => 0) c.length := by
    unfold lengthsI Huff.lenD
    rw [if_neg hn1]
  have hlA : (cellsInt64S c).length = c.length := by simp
  have HI0 : Hid (Inv6 (cN c) c.length (Huff.huff c.length (Huff.gstart (cN c) c.length) fun _ => 0) c.length (Huff.gstart (cN c) c.length) (fun _ => 0)) := inv6_start _ _
  rw [hLI]
  generalize (Huff.huff c.length (Huff.gstart (cN c) c.length) fun _ => 0) = H at HI0 hLI ⊢
  obtain ⟨ao, cap, rfl, _, hx⟩ := ha
  rw [hlA] at H1 hx ⊢
  obtain ⟨b0, off0, rfl, hbl, hcells⟩ := hx (by intro h; rw [h] at hlA; simp at hlA; omega)
  have hnI : ¬ (c.length : Int) = 1 := by omega
  have HC : Hid (∀ i, i < c.length → w.cell? ⟨b0, off0 + i, none⟩ = some (.int .i64 ((cN c i : Nat) : Int))) := fun i hi => by
    have h1 := (hcells i hi).trans (ints_get _ c i hi)
    rw [h1]
    have := hall i hi
    unfold cN
    congr 2
    omega
  have HCB := Lib.hid hcB
  have hfin : (rowF H c.length).length = c.length := rowF_len _ _
  rw [hfin]
  generalize cN c = cf at HC HCB HI0
  generalize hnn : c.length = n at H1 HC HCB HI0 hl1 hl32 hn1 hnI hll ⊢
  have hn1I : ((n : Int) == 1) = false := by simp; omega
  generalize cap = cp at H1 ⊢
  have hp0 := hp6_new w
  have HP0 := Lib.hid hp0
  have hBa := (Below.refl w.heap.size w).alloc (Nat.le_refl _) (.cells #[.slice none 0 0] 69)
  have HBa := Lib.hid hBa
  clear hcN hcB hLI hlA hx hcells hnn hfin hall hkb e hp0 hBa
  go_enter Try.func18, Try.ntmps18
  go_wp2_with fail
  refine H1.mono ?_
  rintro e u ⟨rfl, hu⟩
  replace hu := hu.symm
  subst hu
  clear H1
  go_wp2
  go_loopw [19] (fun i wr => ∃ k : Nat, i = .int .i64 k ∧ k ≤ n ∧ Hid (∃ gs, Hp6 w.heap.size k gs wr ∧ gs.Perm ((List.range k).map fun i => (cf i, i, [i]))) ∧ Hid (Below w.heap.size w wr)) (fun i _ => n - (intOf i).toNat)
  case atStart => exact ⟨0, rfl, Nat.zero_le _, ⟨[], HP0.out, List.Perm.refl _⟩, HBa.out⟩
  case round =>
    obtain ⟨k, rfl, hk, hh, hb⟩ := hrel
    by_cases hlt : k < n
    focus
      have hc := (hb.out.cell (p := ⟨b0, off0 + k, none⟩) hbl).trans (HC.out k hlt)
      obtain ⟨ck, hck⟩ : ∃ ck, ck = cf k := ⟨_, rfl⟩
      rw [← hck] at hc
      have HCK := Lib.hid hck
      have hput : Hid (Calls Try.prog 63 #[.pointer (some ⟨w.heap.size, 0, none⟩), itV (ck, k, some ⟨wr.heap.size, 0, none⟩, 1, 1)] (wr.alloc (.cells #[.int .i64 (k : Int)] 3)) fun e w' => e = .returned (.tuple #[]) ∧ Hid (∃ gs, Hp6 w.heap.size (k + 1) gs w' ∧ gs.Perm ((List.range (k + 1)).map fun i => (cf i, i, [i]))) ∧ Hid (Below w.heap.size w w')) := by
        obtain ⟨gs, hg1, hg2⟩ := hh.out
        have hsz := hb.out.size
        have hba := (Below.refl wr.heap.size wr).alloc (Nat.le_refl _) (.cells #[.int .i64 (k : Int)] 3)
        have hlit : (wr.alloc (.cells #[.int .i64 (k : Int)] 3)).ownsRow wr.heap.size 3 1 (.slice (some ⟨wr.heap.size, 0, none⟩) 1 1) 1 (cellsInt64S (natsL [k])) := World.ownsRow_lit wr #[.int .i64 (k : Int)] 1 (Nat.le_refl _) (by unfold maxLen; omega) rfl
        have hlt2 : w.heap.size + 1 ≤ wr.heap.size := by
          obtain ⟨hs, ps, q1, _⟩ := hg1.ex
          exact q1.at_.lt
        refine (put6_any w.heap.size k gs ((cf k, k, [k]) :: gs) (ck, k, some ⟨wr.heap.size, 0, none⟩, 1, 1) (cf k, k, [k]) _ (hg1.below hba) ⟨⟨HCK.out, rfl⟩, owns_base hlit hlt2⟩ (List.Perm.refl _) (by omega)).mono ?_
        rintro e w' ⟨rfl, p1, p2⟩
        refine ⟨rfl, ⟨_, p1, ?_⟩, (hb.out.trans (hba.mono hsz)).trans p2.bel⟩
        rw [List.range_succ, List.map_append]
        exact (hg2.cons _).trans (List.perm_append_comm (l₁ := [_]))
      clear hck
      go_wp2_with fail
      refine hput.out.mono ?_
      rintro e w2 ⟨rfl, hh2, hb2⟩
      clear hput hc
      go_wp2
      go_roundw
      case rel => exact ⟨k + 1, by go_num, by omega, hh2, hb2⟩
      case measure => simp [intOf]; omega
    obtain rfl : k = n := by omega
    have hsz := hb.out.size
    go_wp2_with (at_make; refine wpList_make_full _ rfl _ _ 28 rfl wr.heap.size 2 i0 (.int .i64 0) 1 Try.underlying28 hi hz0 hz1 _ _ _ _ k rfl rfl (by omega) (by omega) (by rw [hz2]; omega) (by unfold maxLen; omega) ?e1 ?_)
    case e1 => exact Nat.le_refl _
    intro w1 ho1 hg1
    have hst : Hid (∃ gs d, Inv6 cf k H k gs d ∧ Hp6 w.heap.size k gs w1 ∧ w1.ownsRow (w.heap.size + 1) 2 1 (.slice (some ⟨wr.heap.size, 0, none⟩) k k) k (cellsInt64S (rowF d k))) := by
      obtain ⟨gs, g1, g2⟩ := hh.out
      have hbb : Below wr.heap.size wr w1 := (Below.refl _ _).grown hg1 (Nat.le_refl _) (fun q hq => by cases hq)
      refine ⟨_, _, HI0.out, ((g1.perm ((Huff.gstart_perm cf k).trans g2.symm)).below hbb), owns_base ?_ g1.lt⟩
      have h := ho1
      rw [toList_madeCells_one] at h
      have e : cellsInt64S (rowF (fun _ => 0) k) = List.replicate k (.int .i64 0) := by
        unfold rowF cellsInt64S
        rw [List.map_map]
        show (List.range k).map (fun _ => Value.int .i64 0) = _
        rw [List.map_const', List.length_range]
      rw [e]
      simpa using h
    have hB1 : Hid (Below w.heap.size w w1) := hb.out.grown hg1 hsz (fun q hq => by cases hq)
    clear ho1 hg1 hh hb hk hlt
    generalize wr.heap.size = gl at hst hsz ⊢
    go_wp2
    go_loopg [] k (fun m wr => 1 ≤ m ∧ m ≤ k ∧ Hid (∃ gs d, Inv6 cf k H m gs d ∧ Hp6 w.heap.size m gs wr ∧ wr.ownsRow (w.heap.size + 1) 2 1 (.slice (some ⟨gl, 0, none⟩) k k) k (cellsInt64S (rowF d k))) ∧ Hid (Below w.heap.size w wr))
    case atStart => exact ⟨hl1, Nat.le_refl _, hst, hB1⟩
    case round =>
      clear hst hB1
      rename World => w3
      obtain ⟨hm1, hmk, hst, hb⟩ := hrel
      obtain ⟨gs, d, hinv, hhp, hrow⟩ := hst.out
      obtain ⟨ao, cp2, hbox⟩ := hhp.slice
      by_cases h1m : 1 < gk
      focus
        obtain ⟨A, B, rest, hgs⟩ : ∃ A B rest, gs = A :: B :: rest := by
          have hlen := hinv.len
          match gs, hlen with
          | A :: B :: rest, _ => exact ⟨A, B, rest, rfl⟩
          | [_], h => simp at h; omega
          | [], h => simp at h; omega
        subst hgs
        obtain ⟨m, hm⟩ : ∃ m, gk = m + 2 := ⟨gk - 2, by omega⟩
        have hinv2 : Inv6 cf k H (m + 2) (A :: B :: rest) d := by rw [← hm]; exact hinv
        have hhp2 : Hp6 w.heap.size (m + 1 + 1) (A :: B :: rest) w3 := by rw [show m + 1 + 1 = gk by omega]; exact hhp
        have htwo := inv6_two (m := m + 1) hinv2 hl32 (by omega) HCB.out
        have hs1 := List.pairwise_cons.1 hinv.good.sorted
        have hs2 := List.pairwise_cons.1 hs1.2
        have hd1 := first_apart hinv.good hinv.first
        have hd2 : ∀ g ∈ rest, B.2.1 ≠ g.2.1 := fun b hbg => by
          have hnd := Huff.nodup_all hinv.good
          rw [List.flatMap_cons, List.flatMap_cons] at hnd
          have hnd2 := (List.nodup_append.1 hnd).2.1
          exact (List.nodup_append.1 hnd2).2.2 B.2.1 (hinv.first B (by simp)) b.2.1 (List.mem_flatMap.2 ⟨b, hbg, hinv.first b (by simp [hbg])⟩)
        have HT1 := Lib.hid (take6_any w.heap.size (m + 1) A (B :: rest) w3 hhp2 (by omega) hs1.1 hd1)
        have HT2 := Lib.hid (fun W h => take6_any w.heap.size m B rest W h (by omega) hs2.1 hd2)
        have HTWO := Lib.hid htwo
        have HDLE := Lib.hid hinv2.dle
        have HROW := Lib.hid hrow
        have HM := Lib.hid hm
        have hgk1 : (1 : Int) < (gk : Int) := by omega
        clear hinv hinv2 hhp hhp2 htwo hs1 hs2 hd1 hd2 hst hrow hm hn1 hnI HP0 HBa HI0 hn1I
        go_wp2_with fail
        refine HT1.out.mono ?_
        rintro e w4 ⟨x, rfl, hmx, hh4, hf4⟩
        have HMX := Lib.hid hmx
        have HF4 := Lib.hid hf4
        have HH4 := Lib.hid hh4
        clear HT1 hmx hf4 hh4 hbox
        obtain ⟨xv, hxv⟩ : ∃ xv, xv = itV x := ⟨_, rfl⟩
        rw [← hxv]
        have HXV := Lib.hid hxv
        clear hxv
        go_wp2_with fail
        refine (HT2.out _ HH4.out).mono ?_
        rintro e w5 ⟨y, rfl, hmy, hh5, hf5⟩
        have HMY := Lib.hid hmy
        have HF5 := Lib.hid (HF4.out.trans hf5)
        have HMX5 := Lib.hid (HMX.out.fr hf5)
        have HH5 := Lib.hid hh5
        clear HT2 hmy hh5 hf5 HMX HH4 HF4
        obtain ⟨yv, hyv⟩ : ∃ yv, yv = itV y := ⟨_, rfl⟩
        rw [← hyv]
        have HYV := Lib.hid hyv
        clear hyv
        have HJ : Hid (Calls Try.prog 65 #[itV x, itV y] w5 fun e w' => ∃ (zc zf : Nat) (a : Option Addr) (b d : Nat), e = .returned (.agg #[.int .i64 (zc : Int), .int .i64 (zf : Int), .slice a b d]) ∧ Hid (Mem6 (w.heap.size + 1) w' ((zc, zf, a, b, d), Huff.gmerge A B)) ∧ Hid (Below w5.heap.size w5 w')) := by
          obtain ⟨t1, t2, t3, t4, t5, t6, t7, t8, _⟩ := HTWO.out
          obtain ⟨⟨x1, x2⟩, x3⟩ := HMX5.out
          obtain ⟨⟨y1, y2⟩, y3⟩ := HMY.out
          simp only at x1 x2 y1 y2
          have l1 : (natsL A.2.2).length = A.2.2.length := by simp [natsL]
          have l2 : (natsL B.2.2).length = B.2.2.length := by simp [natsL]
          rw [List.length_append] at t3
          refine (joined5_any x y (natsL A.2.2) (natsL B.2.2) w5 (rd_owns x3) (rd_owns y3) (by omega) (by omega) (by omega) (by omega) (by omega) (by omega)).mono ?_
          rintro e w' ⟨⟨a, b, d⟩, rfl, ho, hb⟩
          refine ⟨x.1 + y.1, min x.2.1 y.2.1, a, b, d, rfl, ⟨⟨?_, ?_⟩, ?_⟩, hb⟩
          · show x.1 + y.1 = A.1 + B.1
            omega
          · show min x.2.1 y.2.1 = min A.2.1 B.2.1
            rw [x2, y2]
          · have e1 : natsL A.2.2 ++ natsL B.2.2 = natsL (A.2.2 ++ B.2.2) := by simp [natsL]
            have e2 : (natsL (A.2.2 ++ B.2.2)).length = (A.2.2 ++ B.2.2).length := by simp [natsL]
            rw [e1, e2] at ho
            exact owns_base ho (by have := HH5.out.lt; omega)
        go_wp2_with fail
        rw [HXV.out, HYV.out]
        refine HJ.out.mono ?_
        rw [← HXV.out, ← HYV.out]
        rintro e w6 ⟨zc, zf, s1, s2, s3, rfl, hmz, hb6⟩
        clear HJ HMX5 HMY
        obtain ⟨gz, L, hs1, hs2, hL, hL0⟩ : ∃ gz L, s1 = some ⟨gz, 0, none⟩ ∧ s2 = L ∧ L = (A.2.2 ++ B.2.2).length ∧ 0 < L := by
          have hlen : 0 < (A.2.2 ++ B.2.2).length := by rw [List.length_append]; have := HTWO.out.2.2.2.1; omega
          obtain ⟨g, cap, hv, _⟩ := owns_head hmz.out.2 hlen
          have hv2 : (Value.slice s1 s2 s3) = .slice (some ⟨g, 0, none⟩) (A.2.2 ++ B.2.2).length cap := hv
          injection hv2 with e1 e2 e3
          exact ⟨g, _, e1, e2, rfl, hlen⟩
        subst hs1
        subst hs2
        obtain ⟨ms, hms⟩ : ∃ ms, ms = A.2.2 ++ B.2.2 := ⟨_, rfl⟩
        have HMS := Lib.hid hms
        rw [← hms] at hL
        have HL := Lib.hid hL
        have hL32 : s2 ≤ 32 := by
          have := HTWO.out.2.2.1
          rw [← hms, ← hL] at this
          omega
        clear hms hL
        go_wp2
        have hba := (Below.refl w6.heap.size w6).alloc (Nat.le_refl _) (.cells #[.int .i64 (zc : Int), .int .i64 (zf : Int), .slice (some ⟨gz, 0, none⟩) s2 s3] 73)
        have h5b := hb6.out
        have hs6 := h5b.size
        have hrow6 := owns_below (owns_below (owns_fr6 HROW.out (by decide) HF5.out) h5b) hba
        have hp7 := Lib.hid ((HH5.out.below h5b).below hba)
        have mz7 := Lib.hid (hmz.out.below hba)
        have box7 := Lib.hid (heap_alloc_new w6 (.cells #[.int .i64 (zc : Int), .int .i64 (zf : Int), .slice (some ⟨gz, 0, none⟩) s2 s3] 73))
        have hB7 : Hid (Below w.heap.size w (w6.alloc (.cells #[.int .i64 (zc : Int), .int .i64 (zf : Int), .slice (some ⟨gz, 0, none⟩) s2 s3] 73))) := ((hb.out.trans HF5.out.bel).trans (h5b.mono (Nat.le_trans hb.out.size HF5.out.bel.size))).trans (hba.mono (Nat.le_trans (Nat.le_trans hb.out.size HF5.out.bel.size) hs6))
        have HR7 := Lib.hid hrow6
        clear hmz HF5 HH5 HROW hba h5b hrow6 hb6 hs6 hb
        generalize w6.alloc (.cells #[.int .i64 (zc : Int), .int .i64 (zf : Int), .slice (some ⟨gz, 0, none⟩) s2 s3] 73) = w7 at hp7 mz7 box7 hB7 HR7 ⊢
        generalize w6.heap.size = bz at box7 ⊢
        go_loopw [43] (fun i wr => ∃ p : Nat, i = .int .i64 p ∧ p ≤ s2 ∧ Hid (Hp6 w.heap.size m rest wr) ∧ Hid (Mem6 (w.heap.size + 1) wr ((zc, zf, some ⟨gz, 0, none⟩, s2, s3), Huff.gmerge A B)) ∧ Hid (wr.heap[bz]? = some (.cells #[.int .i64 (zc : Int), .int .i64 (zf : Int), .slice (some ⟨gz, 0, none⟩) s2 s3] 73 (0, 0))) ∧ Hid (wr.ownsRow (w.heap.size + 1) 2 1 (.slice (some ⟨gl, 0, none⟩) k k) k (cellsInt64S (rowF (Huff.bump d (ms.take p)) k))) ∧ Hid (Below w.heap.size w wr)) (fun i _ => s2 - (intOf i).toNat)
        case atStart => exact ⟨0, rfl, Nat.zero_le _, hp7, mz7, box7, by
          have e : Huff.bump d (ms.take 0) = d := by funext i; unfold Huff.bump; simp
          rw [e]
          exact HR7, hB7⟩
        case round =>
          rename World => w8
          clear hp7 mz7 box7 hB7 HR7
          obtain ⟨p, rfl, hp, hp8, mz8, box8, hr8, hb8⟩ := hrel
          by_cases hlt : p < s2
          focus
            have hpl : p < ms.length := by have := HL.out; omega
            have homz : w8.ownsRow (w.heap.size + 1) 3 1 (.slice (some ⟨gz, 0, none⟩) s2 s3) ms.length (cellsInt64S (natsL ms)) := by rw [HMS.out]; exact mz8.out.2
            have hndm : ms.Nodup := by rw [HMS.out]; exact HTWO.out.1
            have hbt := bump_take (d := d) hndm hpl
            have hqk : ms.getD p 0 < k := HTWO.out.2.1 _ (by
              rw [← HMS.out]
              have e : ms.getD p 0 = ms[p] := by simp [List.getD, hpl]
              rw [e]
              exact List.getElem_mem hpl)
            have c1 : w8.cell? ⟨gz, p, none⟩ = some (.int .i64 ((ms.getD p 0 : Nat) : Int)) := by
              have h := World.ownsRow.cells homz (g := gz) rfl p (.int .i64 ((ms.getD p 0 : Nat) : Int)) (by simp [natsL, List.getD, hpl])
              rw [Addr.add_mid, Nat.zero_add] at h
              exact h
            have hdq := HDLE.out _ hqk
            obtain ⟨q, hq⟩ : ∃ q, q = ms.getD p 0 := ⟨_, rfl⟩
            rw [← hq] at hbt hqk c1 hdq
            have c2 : w8.cell? ⟨gl, q, none⟩ = some (.int .i64 ((Huff.bump d (ms.take p) q : Nat) : Int)) := by
              rw [hr8.out.cellAt q (by omega), ints_get _ _ q (by rw [rowF_len]; exact hqk), rowF_get _ hqk]
            have f1 : w8.frozen? ⟨gl, q, none⟩ = false := World.ownsRow.frozenAt hr8.out _
            have hset := owns_set5 hr8.out q (Huff.bump d (ms.take p) q + 1)
            rw [hbt.1] at hset
            have hglb : ∃ cs, w8.heap[gl]? = some (.cells cs 2 (0, 0)) := by
              rcases hr8.out.2 with ⟨h0, _⟩ | ⟨g, cap, cur, hv, _, hh, _⟩
              · cases h0
              · cases hv; exact ⟨cur, hh⟩
            obtain ⟨csl, hcsl⟩ := hglb
            have hkp := keeps6_of hset.2 hcsl
            rw [hbt.2] at c2 hset hkp
            have hglt : w.heap.size + 1 ≤ gl := (hr8.out.lt gl rfl).1
            obtain ⟨dv, hdv⟩ : ∃ dv, dv = d q := ⟨_, rfl⟩
            rw [← hdv] at c2 hset hkp hdq
            obtain ⟨nv, hnv⟩ : ∃ nv, nv = dv + 1 := ⟨_, rfl⟩
            rw [← hnv] at hset hkp
            have hnI : (dv : Int) + 1 = (nv : Int) := by omega
            have hdv32 : dv ≤ 32 := by omega
            have HSET := Lib.hid hset
            have p1 := Lib.hid (hp8.out.keeps hkp)
            have p2 := Lib.hid (mz8.out.keeps hkp)
            have p3 := Lib.hid ((hkp bz _ _ _ box8.out (by decide)).trans box8.out)
            have p4 := Lib.hid (hb8.out.grown hset.2 hb8.out.size (fun k hk => by cases hk; omega))
            clear hq hdv hnv hset hkp hbt homz hndm hpl hcsl hp8 mz8 box8 hr8 hb8 hdq
            go_wp2
            go_roundw
            case rel => exact ⟨p + 1, by go_num, by omega, p1, p2, p3, HSET.out.1, p4⟩
            case measure => simp [intOf]; omega
          obtain rfl : p = s2 := by omega
          have hrr : Hid (w8.ownsRow (w.heap.size + 1) 2 1 (.slice (some ⟨gl, 0, none⟩) k k) k (cellsInt64S (rowF (Huff.bump d (A.2.2 ++ B.2.2)) k))) := by
            have e : ms.take p = ms := by rw [HL.out]; exact List.take_length
            have h := hr8.out
            rw [e, HMS.out] at h
            exact h
          have hpt := Lib.hid (put6_any w.heap.size m rest (Huff.gins (Huff.gmerge A B) rest) (zc, zf, some ⟨gz, 0, none⟩, p, s3) (Huff.gmerge A B) w8 hp8.out mz8.out (Huff.gins_perm _ _) (by have := HM.out; omega))
          have k0 : w8.cell? ⟨bz, 0, none⟩ = some (.int .i64 (zc : Int)) := cell_of_row w8 bz 0 _ _ (0, 0) box8.out
          have k1 : w8.cell? ⟨bz, 1, none⟩ = some (.int .i64 (zf : Int)) := cell_of_row w8 bz 1 _ _ (0, 0) box8.out
          have k2 : w8.cell? ⟨bz, 2, none⟩ = some (.slice (some ⟨gz, 0, none⟩) p s3) := cell_of_row w8 bz 2 _ _ (0, 0) box8.out
          clear hp8 mz8 box8 hr8 hlt
          go_wp2_with fail
          refine hpt.out.mono ?_
          rintro e w9 ⟨rfl, hp9, hf9⟩
          have HN : Hid (∃ gs d, Inv6 cf k H (m + 1) gs d ∧ Hp6 w.heap.size (m + 1) gs w9 ∧ w9.ownsRow (w.heap.size + 1) 2 1 (.slice (some ⟨gl, 0, none⟩) k k) k (cellsInt64S (rowF d k))) := ⟨_, _, HTWO.out.2.2.2.2.2.2.2.2, hp9, owns_fr6 hrr.out (by decide) hf9⟩
          have HB9 := Lib.hid (hb8.out.trans hf9.bel)
          clear hpt hrr hp9 hf9 hb8 k0 k1 k2
          go_wp2
          go_roundg (m + 1)
          case measure => have := HM.out; omega
          case rel => exact ⟨by omega, by have := HM.out; omega, HN.out, HB9.out⟩
      obtain rfl : gk = 1 := by omega
      have hHd := inv6_end hinv (Nat.le_refl _)
      subst hHd
      have hfin := Lib.hid (owns_base hrow (Nat.le_succ _))
      clear hinv hhp hrow hst
      go_wp2
      go_ret
      exact ⟨_, rfl, hfin.out, hb.out⟩
end Go.Proofs.Ytgcpdifggjkdhab
