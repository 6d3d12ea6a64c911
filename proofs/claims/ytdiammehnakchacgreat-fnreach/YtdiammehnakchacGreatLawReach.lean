/- FnReach: what one comes to has the roots and goes on from each to its children, and a store with more has no less. For every code, without a condition. -/
import Derived.Test.YtdiammehnakchacGreatDrawsV
import Derived.Test.YtdiammehnakchacGreatRchI
import Derived.Test.YtdiammehnakchacGreatRchS
import Derived.Test.YtdiammehnakchacGreatTreeI
import Derived.Test.YtdiammehnakchacGreatTreeS
import Derived.Test.YtdiammehnakchacGreatStoP
import Derived.Test.YtdiammehnakchacGreatPick
import Derived.Test.YtdiammehnakchacGreatLikeI
import Derived.Test.YtdiammehnakchacGreatArgs
namespace Go.Proofs.YtdiammehnakchacGreat.fnReach
open Go.ChangeShapes Go.WideShapes Go.ChangeAt Go.RowKit
set_option linter.unusedVariables false
theorem rd_at {w : World} {v : Value} {L : List Int} (h : Rd w v (cellsInt64S L)) : ∃ ao cap, v = .slice ao L.length cap ∧ ∀ k, k < L.length → ∃ b off, ao = some ⟨b, off, none⟩ ∧ b < w.heap.size ∧ ∀ W, Below w.heap.size w W → W.cell? ⟨b, off + k, none⟩ = some (.int .i64 (L.getD k 0)) := by
  have hla : (cellsInt64S L).length = L.length := by simp
  obtain ⟨ao, cap, hv, hcap, hx⟩ := h
  rw [hla] at hv hcap hx
  refine ⟨ao, cap, hv, fun k hk => ?_⟩
  obtain ⟨b, off, h1, h3, h2⟩ := hx (by intro e; have := congrArg List.length e; rw [hla] at this; simp at this; rw [this] at hk; simp at hk)
  exact ⟨b, off, h1, h3, fun W hW => (hW.cell (p := ⟨b, off + k, none⟩) h3).trans ((h2 k hk).trans (ints_get _ L k hk))⟩
theorem child_len {s : ByteArray} : ((childT s).getD []).length ≤ 4 := by
  cases h : childT s with
  | none => exact Nat.zero_le _
  | some l =>
    show l.length ≤ 4
    unfold childT at h
    rcases child_back h with ⟨_, _, rfl⟩ | ⟨_, h2⟩
    · exact Nat.zero_le _
    · exact h2.2.1
theorem br_full {ds : List Int} (h : okBr ds) : (brT ds).size ≠ 0 := by
  unfold brT
  rw [asB_size, brL_ok h, List.length_cons]
  omega
theorem get_getD {L : List Int} {k : Nat} (h : k < L.length) : L.getD k 0 ∈ L := by
  have e : L.getD k 0 = L[k] := by simp [List.getD, h]
  rw [e]
  exact List.getElem_mem h
theorem drop_stO {l : List Bl} {ds : List Int} (hl : storeB l = true) {d : Int} {s : ByteArray} (h : stO (dropT l ds) d = some s) : stO l d = some s := by
  unfold stO at h ⊢
  obtain ⟨p, hp, rfl⟩ := Option.map_eq_some_iff.1 h
  obtain ⟨h1, h2⟩ := findB_some hp
  rw [← h2, findB_mem (storeB_iff.1 hl).2.2 (drop_sub8 h1)]
  rfl
/-- Get's answer, and what is below it -/
theorem get_is (l : List Bl) (d : Int) (R out : List Int) (hl : storeB l = true) (hr : IsReach (stO l) R out) (hd : d ∈ out) (hs : ∀ p ∈ l, p.2.size ≤ 1048576) : ∃ (t : ByteArray) (th : Bool), getV (getT l d) = .tuple #[.string t, .bool th] ∧ t.size ≤ 1048576 ∧ (th = false → (childT t).getD [] = []) ∧ ∀ c ∈ (childT t).getD [], c ∈ out := by
  have e : getT l d = stO l d := by unfold getT stO; rw [if_pos hl]
  cases hg : stO l d with
  | none =>
    refine ⟨⟨#[]⟩, false, by rw [e, hg]; rfl, Nat.zero_le _, fun _ => rfl, fun c hc => by cases hc⟩
  | some t =>
    refine ⟨t, true, by rw [e, hg]; rfl, ?_, (fun h => by cases h), fun c hc => ?_⟩
    · unfold stO at hg
      obtain ⟨p, hp, rfl⟩ := Option.map_eq_some_iff.1 hg
      exact hs p (findB_some hp).1
    · cases ht : childT t with
      | none => rw [ht] at hc; cases hc
      | some k =>
        rw [ht] at hc
        exact (hr.2 c).2 (Rch.next ((hr.2 d).1 hd) hg ht hc)
set_option maxHeartbeats 8000000 in
set_option maxRecDepth 100000 in
theorem walk (va : Value) (bs : List Int) (w : World) (ha : Rd w va (cellsByteS bs)) (hz : Bytes bs) (hlen : bs.length ≤ 9223372036854775807) :
    Calls Tryz.prog 3 #[va] w fun e w' => e = .returned (.bool true) ∧ Below w.heap.size w w' := by
  by_cases hbig : 4096 < (bs.length : Int)
  · obtain ⟨ao, cap, rfl, _, _⟩ := ha
    have hla : (cellsByteS bs).length = bs.length := by simp
    rw [hla]
    go_enter Tryz.func3, Tryz.ntmps3
    go_wp2
    go_ret
    exact ⟨rfl, Below.refl _ _⟩
  · have hl : bs.length ≤ 4096 := by omega
    have hbg : Calls Tryz.prog 4 #[va] w fun e w' => e = .returned (.bool false) ∧ w' = w := by
      obtain ⟨ao, cap, rfl, _, _⟩ := ha
      have hla : (cellsByteS bs).length = bs.length := by simp
      rw [hla]
      go_enter Tryz.func4, Tryz.ntmps4
      go_wp2
      go_ret
      exact ⟨by simp, rfl⟩
    have hdr : Calls Tryz.prog 5 #[va] w fun e w' => ∃ (u ur : Value) (l : List Bl) (R : List Int), e = .returned (.tuple #[u, ur]) ∧ l.length ≤ 600 ∧ Sm l 3001 ∧ R.length ≤ 5 ∧ Rt R ∧ RdB w' u l ∧ Rd w' ur (cellsInt64S R) ∧ Below w.heap.size w w' := drawReach_any va bs w ha hl hz
    have HDC : Hid (∀ W, Below w.heap.size w W → Calls Tryz.prog 7 #[va] W fun e w' => ∃ s : ByteArray, e = .returned (.string s) ∧ s.size ≤ 100 ∧ Below W.heap.size W w') := fun W h => drawChildren_any va bs W (rd_below ha h) hl hz
    have HDB : Hid (∀ W, Below w.heap.size w W → Calls Tryz.prog 9 #[va] W fun e w' => ∃ (v : Value) (ds : List Int), e = .returned v ∧ ds.length ≤ 7 ∧ (∀ d ∈ ds, -1 ≤ d ∧ d ≤ 2147483647) ∧ Rd w' v (cellsInt64S ds) ∧ Below W.heap.size W w') := fun W h => drawBranch_any va bs W (rd_below ha h) hl hz
    have HDL : Hid (∀ W, Below w.heap.size w W → Calls Tryz.prog 11 #[va] W fun e w' => ∃ s : ByteArray, e = .returned (.string s) ∧ s.size ≤ 5 ∧ Below W.heap.size W w') := fun W h => drawLeaf_any va bs W (rd_below ha h) hl hz
    have HPK : Hid (∀ W, Below w.heap.size w W → Calls Tryz.prog 22 #[va, .int .i64 1, .int .i64 9] W fun e w' => ∃ r : Int, e = .returned (.int .i64 r) ∧ 0 ≤ r ∧ r < 9 ∧ Below W.heap.size W w') := fun W h => pick_any va bs 1 9 W (rd_below ha h) hl (code_all hz) (by omega) (by omega) (by omega) (by omega)
    clear ha hz hlen hbig
    go_enter Tryz.func3, Tryz.ntmps3
    go_wp2_with fail
    refine hbg.mono ?_
    rintro e w' ⟨rfl, rfl⟩
    clear hbg
    go_wp2_with fail
    refine hdr.mono ?_
    rintro e w1 ⟨u, ur, l, R, rfl, hll, hsm, hRl, hrt, hru, hrr, hb1⟩
    have HSM : Hid (∀ p ∈ l, p.2.size ≤ 1048576) := fun p hp => by have := hsm p hp; omega
    have HRT : Hid (∀ d ∈ R, -9223372036854775808 ≤ d ∧ d ≤ 9223372036854775807) := fun d hd => by have := hrt d hd; omega
    clear hdr hsm hrt
    go_wp2_with fail
    refine (implReach_any u ur l R w1 hru hrr HRT.out (by omega) HSM.out (by omega)).mono ?_
    rintro e w2 ⟨vo, out, rfl, hro, hoo, hb2⟩
    have HRO := Lib.hid hro
    have hol : out.length ≤ 1049776 := reachIs_len hro (by omega)
    have hs1 := hb1.size
    have hru2 := rdB_below hru hb2
    have hrr2 := rd_below hrr hb2
    have hrx2 := rd_owns hoo
    have hB2 := hb1.trans (hb2.mono hs1)
    clear hru hrr hoo hb1 hb2 hro
    go_wp2_with fail
    refine (HDC.out w2 hB2).mono ?_
    rintro e w3 ⟨q, rfl, hq, hb3⟩
    have hs2 := hB2.size
    have hru3 := rdB_below hru2 hb3
    have hrr3 := rd_below hrr2 hb3
    have hrx3 := rd_below hrx2 hb3
    have hB3 := hB2.trans (hb3.mono hs2)
    clear hru2 hrr2 hrx2 hB2 hb3 HDC
    have hcq : Calls Tryz.prog 8 #[.string q] w3 fun e w' => ∃ v, e = .returned (.tuple #[v, .bool (childT q).isSome]) ∧ w'.ownsRow w3.heap.size 2 1 v ((childT q).getD []).length (cellsInt64S ((childT q).getD [])) ∧ Below w3.heap.size w3 w' := implChildren_any q w3 (by omega)
    have HSQ : Hid (∀ W, Calls Tryz.prog 12 #[.string q] W fun e w' => ∃ v, e = .returned (.tuple #[v, .bool (childT q).isSome]) ∧ w'.ownsRow W.heap.size 2 1 v ((childT q).getD []).length (cellsInt64S ((childT q).getD [])) ∧ Below W.heap.size W w') := fun W => specChildren_any q W (by omega)
    have hcl : ((childT q).getD []).length ≤ 4 := child_len
    generalize (childT q).getD [] = cq at hcq HSQ hcl
    generalize (childT q).isSome = qb at hcq HSQ
    go_wp2_with fail
    refine hcq.mono ?_
    rintro e w4 ⟨vc, rfl, hoc, hb4⟩
    have hs3 := hB3.size
    have hru4 := rdB_below hru3 hb4
    have hrr4 := rd_below hrr3 hb4
    have hrx4 := rd_below hrx3 hb4
    have hrc4 := rd_owns hoc
    have hB4 := hB3.trans (hb4.mono hs3)
    clear hru3 hrr3 hrx3 hB3 hb4 hoc hcq
    go_wp2_with fail
    refine (HDB.out w4 hB4).mono ?_
    rintro e w5 ⟨vb, ds, rfl, hdl, _, hrb5, hb5⟩
    have hs4 := hB4.size
    have hru5 := rdB_below hru4 hb5
    have hrr5 := rd_below hrr4 hb5
    have hrx5 := rd_below hrx4 hb5
    have hrc5 := rd_below hrc4 hb5
    have hB5 := hB4.trans (hb5.mono hs4)
    clear hru4 hrr4 hrx4 hrc4 hB4 hb5 HDB
    go_wp2_with fail
    refine (implBranch_any vb ds w5 hrb5 (by omega)).mono ?_
    rintro e w6 ⟨rfl, hb6⟩
    have hs5 := hB5.size
    have hru6 := rdB_below hru5 hb6
    have hrr6 := rd_below hrr5 hb6
    have hrx6 := rd_below hrx5 hb6
    have hrc6 := rd_below hrc5 hb6
    have hrb6 := rd_below hrb5 hb6
    have hB6 := hB5.trans (hb6.mono hs5)
    clear hru5 hrr5 hrx5 hrc5 hrb5 hB5 hb6
    have hbz : (brT ds).size ≤ 31 := brT_31
    have HSB : Hid (∀ W, Rd W vb (cellsInt64S ds) → Calls Tryz.prog 15 #[vb] W fun e w' => e = .returned (.string (brT ds)) ∧ Below W.heap.size W w') := fun W h => specBranch_any vb ds W h (by omega)
    have HBK : Hid (okBr ds → (brT ds).size ≠ 0 ∧ childT (brT ds) = some ds) := fun h => ⟨br_full h, childT_br h⟩
    have HBN : Hid (¬ okBr ds → (brT ds).size = 0) := fun h => by rw [br_none h]; rfl
    generalize brT ds = t at hbz HSB HBK HBN
    go_wp2_with fail
    refine (HDL.out w6 hB6).mono ?_
    rintro e w7 ⟨f, rfl, hfz, hb7⟩
    have hs6 := hB6.size
    have hru7 := rdB_below hru6 hb7
    have hrr7 := rd_below hrr6 hb7
    have hrx7 := rd_below hrx6 hb7
    have hrc7 := rd_below hrc6 hb7
    have hrb7 := rd_below hrb6 hb7
    have hB7 := hB6.trans (hb7.mono hs6)
    clear hru6 hrr6 hrx6 hrc6 hrb6 hB6 hb7 HDL
    go_wp2_with fail
    refine (HSQ.out w7).mono ?_
    rintro e w8 ⟨vx, rfl, hox, hb8⟩
    have hs7 := hB7.size
    have hru8 := rdB_below hru7 hb8
    have hrr8 := rd_below hrr7 hb8
    have hrx8 := rd_below hrx7 hb8
    have hrc8 := rd_below hrc7 hb8
    have hrb8 := rd_below hrb7 hb8
    have hB8 := hB7.trans (hb8.mono hs7)
    have hlk := likeInts_any vc vx cq cq w8 hrc8 (rd_owns hox) (by omega) (by omega)
    rw [decide_eq_true rfl] at hlk
    have hqq : (qb != qb) = false := by cases qb <;> rfl
    clear hru7 hrr7 hrx7 hrc7 hrb7 hB7 hb8 HSQ hox
    go_wp2_with fail
    refine hlk.mono ?_
    rintro e w9 ⟨rfl, hb9⟩
    have hs8 := hB8.size
    have hru9 := rdB_below hru8 hb9
    have hrr9 := rd_below hrr8 hb9
    have hrx9 := rd_below hrx8 hb9
    have hrb9 := rd_below hrb8 hb9
    have hB9 := hB8.trans (hb9.mono hs8)
    clear hru8 hrr8 hrx8 hrc8 hrb8 hB8 hb9 hlk
    go_wp2_with fail
    refine (specReach_any u ur l R w9 hru9 hrr9 (by omega) HSM.out (by omega)).mono ?_
    rintro e w10 ⟨vo2, out2, rfl, hro2, hoo2, hb10⟩
    obtain rfl : out2 = out := reachIs_same hro2 HRO.out
    have hs9 := hB9.size
    have hru10 := rdB_below hru9 hb10
    have hrr10 := rd_below hrr9 hb10
    have hrx10 := rd_below hrx9 hb10
    have hrb10 := rd_below hrb9 hb10
    have hB10 := hB9.trans (hb10.mono hs9)
    have hlk := likeInts_any vo vo2 out2 out2 w10 hrx10 (rd_owns hoo2) (by omega) (by omega)
    rw [decide_eq_true rfl] at hlk
    clear hru9 hrr9 hrx9 hrb9 hB9 hb10 hoo2 hro2
    go_wp2_with fail
    refine hlk.mono ?_
    rintro e w11 ⟨rfl, hb11⟩
    have hs10 := hB10.size
    have hru11 := rdB_below hru10 hb11
    have hrr11 := rd_below hrr10 hb11
    have hrx11 := rd_below hrx10 hb11
    have hrb11 := rd_below hrb10 hb11
    have hB11 := hB10.trans (hb11.mono hs10)
    clear hru10 hrr10 hrx10 hrb10 hB10 hb11 hlk
    have htt : (!t.toList == t.toList) = false := by simp
    go_wp2_with fail
    refine (HSB.out w11 hrb11).mono ?_
    rintro e w12 ⟨rfl, hb12⟩
    have hs11 := hB11.size
    have hru12 := rdB_below hru11 hb12
    have hrr12 := rd_below hrr11 hb12
    have hrx12 := rd_below hrx11 hb12
    have hrb12 := rd_below hrb11 hb12
    have hB12 := hB11.trans (hb12.mono hs11)
    clear hru11 hrr11 hrx11 hrb11 hB11 hb12 HSB
    have HIL : Hid (∀ W, Calls Tryz.prog 16 #[.string f] W fun e w' => e = .returned (.string (leafT f)) ∧ Below W.heap.size W w') := fun W => implLeaf_any f W (by omega)
    have HSL : Hid (∀ W, Calls Tryz.prog 17 #[.string f] W fun e w' => e = .returned (.string (leafT f)) ∧ w' = W) := fun W => specLeaf_any f W (by omega)
    have hlz : (leafT f).size ≤ 6 := by
      unfold leafT leafL
      rw [asB_size, List.length_cons, byts_len]
      omega
    have HCL : Hid (childT (leafT f) = some []) := childT_leaf f
    generalize leafT f = lf at HIL HSL hlz HCL
    have hff : (!lf.toList == lf.toList) = false := by simp
    go_wp2_with fail
    refine (HIL.out w12).mono ?_
    rintro e w13 ⟨rfl, hb13⟩
    have hs12 := hB12.size
    have hru13 := rdB_below hru12 hb13
    have hrr13 := rd_below hrr12 hb13
    have hrx13 := rd_below hrx12 hb13
    have hrb13 := rd_below hrb12 hb13
    have hB13 := hB12.trans (hb13.mono hs12)
    have hs13 := hB13.size
    clear hru12 hrr12 hrx12 hrb12 hB12 hb13
    go_wp2_with fail
    refine (HSL.out w13).mono ?_
    rintro e w14 ⟨rfl, rfl⟩
    clear HSL
    by_cases hok : okBr ds
    · obtain ⟨ht0, htc⟩ := HBK.out hok
      have htne : (t.toList == []) = false := by
        have hne : ¬ t.toList = [] := fun e => ht0 (by rw [same_of (a := t) (b := ⟨#[]⟩) (by rw [e]; simp)]; rfl)
        simp [hne]
      have hch : Calls Tryz.prog 8 #[.string t] w14 fun e w' => ∃ v, e = .returned (.tuple #[v, .bool (childT t).isSome]) ∧ w'.ownsRow w14.heap.size 2 1 v ((childT t).getD []).length (cellsInt64S ((childT t).getD [])) ∧ Below w14.heap.size w14 w' := implChildren_any t w14 (by omega)
      rw [htc] at hch
      simp only [Option.isSome_some, Option.getD_some] at hch
      clear HBK HBN ht0 htc hok htt
      go_wp2_with fail
      refine hch.mono ?_
      rintro e w15 ⟨v15, rfl, ho15, hb15⟩
      have hru15 := rdB_below hru13 hb15
      have hrr15 := rd_below hrr13 hb15
      have hrx15 := rd_below hrx13 hb15
      have hrb15 := rd_below hrb13 hb15
      have hB15 := hB13.trans (hb15.mono hs13)
      have hlk := likeInts_any v15 vb ds ds w15 (rd_owns ho15) hrb15 (by omega) (by omega)
      rw [decide_eq_true rfl] at hlk
      clear hru13 hrr13 hrx13 hrb13 hB13 hb15 hch ho15
      go_wp2_with fail
      refine hlk.mono ?_
      rintro e w16 ⟨rfl, hb16⟩
      have hs15 := hB15.size
      have hru := rdB_below hru15 hb16
      have hrr := rd_below hrr15 hb16
      have hrx := rd_below hrx15 hb16
      have hB := hB15.trans (hb16.mono hs15)
      clear hru15 hrr15 hrx15 hrb15 hB15 hb16 hlk
      have hsB := hB.size
      go_wp2_with fail
      refine (HIL.out w16).mono ?_
      rintro e wa ⟨rfl, hba⟩
      have hrua := rdB_below hru hba
      have hrra := rd_below hrr hba
      have hrxa := rd_below hrx hba
      have hBa := hB.trans (hba.mono hsB)
      have hsa := hBa.size
      have hcl2 : Calls Tryz.prog 8 #[.string lf] wa fun e w' => ∃ v, e = .returned (.tuple #[v, .bool (childT lf).isSome]) ∧ w'.ownsRow wa.heap.size 2 1 v ((childT lf).getD []).length (cellsInt64S ((childT lf).getD [])) ∧ Below wa.heap.size wa w' := implChildren_any lf wa (by omega)
      rw [HCL.out] at hcl2
      simp only [Option.isSome_some, Option.getD_some] at hcl2
      clear hru hrr hrx hB hba HIL HCL hff
      go_wp2_with fail
      refine hcl2.mono ?_
      rintro e wb ⟨vz, rfl, hoz, hbb⟩
      obtain ⟨az, cz, hvz⟩ := owns_slice hoz
      subst hvz
      have hrub := rdB_below hrua hbb
      have hrrb := rd_below hrra hbb
      have hrxb := rd_below hrxa hbb
      have hBb := hBa.trans (hbb.mono hsa)
      have hsb := hBb.size
      have hsk := specStoreOk_any u l wb hrub (by omega) HSM.out
      clear hcl2 hrua hrra hrxa hBa hbb hoz
      cases hst : storeB l with
      | false =>
        rw [hst] at hsk
        have hnil : out2 = [] := by
          rcases HRO.out with ⟨_, h⟩ | ⟨h, _⟩
          · exact h
          · rw [hst] at h; cases h
        obtain ⟨ax, cx, hvx⟩ : ∃ ax cx, vo = .slice ax 0 cx := by
          obtain ⟨ax, cx, h, _⟩ := hrxb
          rw [hnil] at h
          exact ⟨ax, cx, h⟩
        subst hvx
        clear hrub hrrb hrxb HRO HPK hnil
        go_wp2_with fail
        refine hsk.mono ?_
        rintro e wc ⟨rfl, hbc⟩
        have HB := Lib.hid (hBb.trans (hbc.mono hsb))
        clear hsk hbc hBb
        go_wp2
        go_ret
        exact ⟨rfl, HB.out⟩
      | true =>
        rw [hst] at hsk
        have HIS : Hid (IsReach (stO l) R out2) := by
          rcases HRO.out with ⟨h, _⟩ | ⟨_, h⟩
          · rw [hst] at h; cases h
          · exact h
        have HST : Hid (storeB l = true) := hst
        clear HRO hst
        go_wp2_with fail
        refine hsk.mono ?_
        rintro e wc ⟨rfl, hbc⟩
        have hruc := rdB_below hrub hbc
        have hrrc := rd_below hrrb hbc
        have hrxc := rd_below hrxb hbc
        have HBC := Lib.hid (hBb.trans (hbc.mono hsb))
        clear hsk hrub hrrb hrxb hBb hbc
        obtain ⟨ar, cr, hvr, HRA⟩ := rd_at hrrc
        subst hvr
        obtain ⟨ax, cx, hvx, HXA⟩ := rd_at hrxc
        subst hvx
        have HRA := Lib.hid HRA
        have HXA := Lib.hid HXA
        have HU := Lib.hid (fun W (h : Below wc.heap.size wc W) => rdB_below hruc h)
        have HR := Lib.hid (fun W (h : Below wc.heap.size wc W) => rd_below hrrc h)
        have HX := Lib.hid (fun W (h : Below wc.heap.size wc W) => rd_below hrxc h)
        have hbr := Below.refl wc.heap.size wc
        clear hruc hrrc hrxc
        go_wp2
        go_loopw [18] (fun i wr => ∃ k : Nat, k ≤ R.length ∧ i = .int .i64 k ∧ Below wc.heap.size wc wr) (fun i _ => R.length - (intOf i).toNat)
        case atStart => exact ⟨0, Nat.zero_le _, rfl, hbr⟩
        case round =>
          rename World => wr
          obtain ⟨k, hk, rfl, hb⟩ := hrel
          clear hbr
          by_cases hltk : k < R.length
          focus
            obtain ⟨b, off, rfl, hlt, hc⟩ := HRA.out k hltk
            have c0 := hc wr hb
            have hmem : R.getD k 0 ∈ out2 := (HIS.out.2 _).2 (Rch.root (get_getD hltk))
            have hhas := has_any _ out2 (R.getD k 0) wr (HX.out wr hb) (by omega) hmem
            obtain ⟨x, hx⟩ : ∃ x, x = R.getD k 0 := ⟨_, rfl⟩
            rw [← hx] at c0 hhas
            clear hx hmem hc
            go_wp2_with fail
            refine hhas.mono ?_
            rintro e wd ⟨rfl, rfl⟩
            clear hhas c0
            go_wp2
            go_roundw
            case rel => exact ⟨k + 1, by omega, by go_num, hb⟩
            case measure => simp [intOf]; omega
          obtain rfl : k = R.length := by omega
          go_wp2
          go_loopw [19] (fun i ws => ∃ k : Nat, k ≤ out2.length ∧ i = .int .i64 k ∧ Below wc.heap.size wc ws) (fun i _ => out2.length - (intOf i).toNat)
          case atStart => exact ⟨0, Nat.zero_le _, rfl, hb⟩
          case round =>
            rename World => ws
            clear hb
            obtain ⟨k, hk2, rfl, hb⟩ := hrel
            have hsb2 := hb.size
            by_cases hltk : k < out2.length
            focus
              obtain ⟨b, off, rfl, hlt, hc⟩ := HXA.out k hltk
              have c0 := hc ws hb
              obtain ⟨t2, th, hgv, htz, hnil, hall⟩ := get_is l (out2.getD k 0) R out2 HST.out HIS.out (get_getD hltk) HSM.out
              have hget := specGet_any u l (out2.getD k 0) ws (HU.out ws hb) (by omega) HSM.out
              rw [hgv] at hget
              obtain ⟨x, hx⟩ : ∃ x, x = out2.getD k 0 := ⟨_, rfl⟩
              rw [← hx] at c0 hget
              have HALL := Lib.hid hall
              have HNIL := Lib.hid hnil
              clear hx hc hgv hall hnil
              go_wp2_with fail
              refine hget.mono ?_
              rintro e wt ⟨rfl, hbt⟩
              have hbt2 := hb.trans (hbt.mono hsb2)
              have hst2 := hbt2.size
              have hch : Calls Tryz.prog 12 #[.string t2] wt fun e w' => ∃ v, e = .returned (.tuple #[v, .bool (childT t2).isSome]) ∧ w'.ownsRow wt.heap.size 2 1 v ((childT t2).getD []).length (cellsInt64S ((childT t2).getD [])) ∧ Below wt.heap.size wt w' := specChildren_any t2 wt htz
              have hcsl : ((childT t2).getD []).length ≤ 4 := child_len
              generalize (childT t2).getD [] = cs at hch hcsl HALL HNIL
              generalize (childT t2).isSome = cb2 at hch
              clear hget hbt c0 hb htz
              go_wp2_with fail
              refine hch.mono ?_
              rintro e wu ⟨vu, rfl, hou, hbu⟩
              have hbu2 := hbt2.trans (hbu.mono hst2)
              have hsu := hbu2.size
              obtain ⟨ac, cc, hvu, HCA⟩ := rd_at (rd_owns hou)
              subst hvu
              have HCA := Lib.hid HCA
              clear hch hbu hbt2 hou
              cases th with
              | false =>
                have h0 := HNIL.out rfl
                subst h0
                clear HALL HNIL HCA
                go_wp2
                refine wp_loop_rounds 1 ?_
                rw [rounds_succ]
                go_wp2
                go_roundw
                case rel => exact ⟨k + 1, by omega, by go_num, hbu2⟩
                case measure => simp [intOf]; omega
              | true =>
                have hbv := Below.refl wu.heap.size wu
                go_wp2
                go_loopw [24] (fun i wv => ∃ j : Nat, j ≤ cs.length ∧ i = .int .i64 j ∧ Below wu.heap.size wu wv) (fun i _ => cs.length - (intOf i).toNat)
                case atStart => exact ⟨0, Nat.zero_le _, rfl, hbv⟩
                case round =>
                  rename World => wv
                  clear hbv
                  obtain ⟨j, hj, rfl, hbv⟩ := hrel
                  have hbw := hbu2.trans (hbv.mono hsu)
                  by_cases hltj : j < cs.length
                  · obtain ⟨b2, off2, rfl, hlt2, hc2⟩ := HCA.out j hltj
                    have c1 := hc2 wv hbv
                    have hhas := has_any _ out2 (cs.getD j 0) wv (HX.out wv hbw) (by omega) (HALL.out _ (get_getD hltj))
                    obtain ⟨y, hy⟩ : ∃ y, y = cs.getD j 0 := ⟨_, rfl⟩
                    rw [← hy] at c1 hhas
                    clear hy hc2 hbw
                    go_wp2_with fail
                    refine hhas.mono ?_
                    rintro e wx ⟨rfl, rfl⟩
                    clear hhas c1
                    go_wp2
                    go_roundw
                    case rel => exact ⟨j + 1, by omega, by go_num, hbv⟩
                    case measure => simp [intOf]; omega
                  · obtain rfl : j = cs.length := by omega
                    clear HALL HNIL HCA hbv
                    go_wp2
                    go_roundw
                    case rel => exact ⟨k + 1, by omega, by go_num, hbw⟩
                    case measure => simp [intOf]; omega
            obtain rfl : k = out2.length := by omega
            have hBs := HBC.out.trans (hb.mono HBC.out.size)
            have hss := hBs.size
            go_wp2_with fail
            refine (HPK.out ws hBs).mono ?_
            rintro e wt ⟨r, rfl, hr0, hr1, hbt⟩
            have hbt2 := hb.trans (hbt.mono hsb2)
            clear hbt hBs hb
            go_wp2_with fail
            refine (roots2_any _ R wt (HR.out wt hbt2) (by omega)).mono ?_
            rintro e wu ⟨rfl, rfl⟩
            have hsu := hbt2.size
            obtain ⟨x0, hx0⟩ : ∃ x0, x0 = R.getD 0 0 := ⟨_, rfl⟩
            rw [← hx0]
            clear hx0
            have hal := hbt2.alloc hsu (.cells #[.int .i64 r, .int .i64 x0] 2)
            have htwo : Rd (wu.alloc (.cells #[.int .i64 r, .int .i64 x0] 2)) (.slice (some ⟨wu.heap.size, 0, none⟩) 2 2) (cellsInt64S [r, x0]) := ⟨_, 2, rfl, Nat.le_refl _, fun _ => ⟨_, 0, rfl, by rw [World.size_alloc]; omega, fun j hj => by
              have hj2 : j < 2 := by simpa using hj
              rcases (show j = 0 ∨ j = 1 by omega) with rfl | rfl <;> simp⟩⟩
            have hdrop := specDrop_any _ _ l [r, x0] (wu.alloc (.cells #[.int .i64 r, .int .i64 x0] 2)) (HU.out _ hal) htwo (by omega) HSM.out (by simp)
            have hdl2 : (dropT l [r, x0]).length ≤ 600 := Nat.le_trans (drop_len8 l [r, x0]) hll
            have HDS : Hid (∀ p ∈ dropT l [r, x0], p.2.size ≤ 1048576) := fun p hp => HSM.out p (drop_sub8 hp)
            have HLE : Hid (∀ L2, ReachIs (dropT l [r, x0]) R L2 → ∀ c ∈ L2, c ∈ out2) := fun L2 h c hc => by
              rcases h with ⟨h, _⟩ | ⟨_, h⟩
              · rw [drop_sto HST.out] at h; cases h
              · exact (HIS.out.2 c).2 (rch_less (fun d s hs => drop_stO HST.out hs) ((h.2 c).1 hc))
            generalize dropT l [r, x0] = DL at hdrop hdl2 HDS HLE
            clear hbt2 htwo
            go_wp2_with fail
            refine hdrop.mono ?_
            rintro e wv ⟨vd, rfl, hod, hbv⟩
            have hbv2 := hal.trans (hbv.mono (by rw [World.size_alloc]; omega))
            have hsv := hbv2.size
            have hrch := implReach_any _ _ DL R wv (rdB_owns hod) (HR.out wv hbv2) HRT.out (by omega) HDS.out (by omega)
            clear hdrop hal hbv hod
            go_wp2_with fail
            refine hrch.mono ?_
            rintro e ww ⟨ve, L2, rfl, hL2, hoe, hbw⟩
            have hbw2 := hbv2.trans (hbw.mono hsv)
            have hl2l : L2.length ≤ 1049776 := reachIs_len hL2 (by omega)
            have HL2 := Lib.hid (HLE.out L2 hL2)
            have hsw := hbw2.size
            obtain ⟨ae, ce, hve, HEA⟩ := rd_at (rd_owns hoe)
            subst hve
            have HEA := Lib.hid HEA
            have hby := Below.refl ww.heap.size ww
            clear hrch hbv2 hbw hoe hL2 HLE HDS hdl2
            go_wp2
            go_loopw [26] (fun i wy => ∃ j : Nat, j ≤ L2.length ∧ i = .int .i64 j ∧ Below ww.heap.size ww wy) (fun i _ => L2.length - (intOf i).toNat)
            case atStart => exact ⟨0, Nat.zero_le _, rfl, hby⟩
            case round =>
              rename World => wy
              clear hby
              obtain ⟨j, hj, rfl, hby⟩ := hrel
              have hbz2 := hbw2.trans (hby.mono hsw)
              by_cases hltj : j < L2.length
              · obtain ⟨b2, off2, rfl, hlt2, hc2⟩ := HEA.out j hltj
                have c1 := hc2 wy hby
                have hhas := has_any _ out2 (L2.getD j 0) wy (HX.out wy hbz2) (by omega) (HL2.out _ (get_getD hltj))
                obtain ⟨y, hy⟩ : ∃ y, y = L2.getD j 0 := ⟨_, rfl⟩
                rw [← hy] at c1 hhas
                clear hy hc2 hbz2
                go_wp2_with fail
                refine hhas.mono ?_
                rintro e wx ⟨rfl, rfl⟩
                clear hhas c1
                go_wp2
                go_roundw
                case rel => exact ⟨j + 1, by omega, by go_num, hby⟩
                case measure => simp [intOf]; omega
              · obtain rfl : j = L2.length := by omega
                have hris := rises_any8 _ out2 wy (HX.out wy hbz2) (by omega) HIS.out.1
                have HBZ := Lib.hid (HBC.out.trans (hbz2.mono HBC.out.size))
                have hsz := hbz2.size
                clear hby hbz2 HEA HL2
                go_wp2_with fail
                refine hris.mono ?_
                rintro e wz ⟨rfl, hbzz⟩
                have HBF := Lib.hid (HBZ.out.trans (hbzz.mono HBZ.out.size))
                clear hris hbzz
                go_wp2
                go_ret
                exact ⟨rfl, HBF.out⟩
    · obtain rfl := empty_of (HBN.out hok)
      have hru := hru13
      have hrr := hrr13
      have hrx := hrx13
      have hB := hB13
      clear HBK HBN hok htt hrb13 hru13 hrr13 hrx13 hB13
      have hsB := hB.size
      go_wp2_with fail
      refine (HIL.out w14).mono ?_
      rintro e wa ⟨rfl, hba⟩
      have hrua := rdB_below hru hba
      have hrra := rd_below hrr hba
      have hrxa := rd_below hrx hba
      have hBa := hB.trans (hba.mono hsB)
      have hsa := hBa.size
      have hcl2 : Calls Tryz.prog 8 #[.string lf] wa fun e w' => ∃ v, e = .returned (.tuple #[v, .bool (childT lf).isSome]) ∧ w'.ownsRow wa.heap.size 2 1 v ((childT lf).getD []).length (cellsInt64S ((childT lf).getD [])) ∧ Below wa.heap.size wa w' := implChildren_any lf wa (by omega)
      rw [HCL.out] at hcl2
      simp only [Option.isSome_some, Option.getD_some] at hcl2
      clear hru hrr hrx hB hba HIL HCL hff
      go_wp2_with fail
      refine hcl2.mono ?_
      rintro e wb ⟨vz, rfl, hoz, hbb⟩
      obtain ⟨az, cz, hvz⟩ := owns_slice hoz
      subst hvz
      have hrub := rdB_below hrua hbb
      have hrrb := rd_below hrra hbb
      have hrxb := rd_below hrxa hbb
      have hBb := hBa.trans (hbb.mono hsa)
      have hsb := hBb.size
      have hsk := specStoreOk_any u l wb hrub (by omega) HSM.out
      clear hcl2 hrua hrra hrxa hBa hbb hoz
      cases hst : storeB l with
      | false =>
        rw [hst] at hsk
        have hnil : out2 = [] := by
          rcases HRO.out with ⟨_, h⟩ | ⟨h, _⟩
          · exact h
          · rw [hst] at h; cases h
        obtain ⟨ax, cx, hvx⟩ : ∃ ax cx, vo = .slice ax 0 cx := by
          obtain ⟨ax, cx, h, _⟩ := hrxb
          rw [hnil] at h
          exact ⟨ax, cx, h⟩
        subst hvx
        clear hrub hrrb hrxb HRO HPK hnil
        go_wp2_with fail
        refine hsk.mono ?_
        rintro e wc ⟨rfl, hbc⟩
        have HB := Lib.hid (hBb.trans (hbc.mono hsb))
        clear hsk hbc hBb
        go_wp2
        go_ret
        exact ⟨rfl, HB.out⟩
      | true =>
        rw [hst] at hsk
        have HIS : Hid (IsReach (stO l) R out2) := by
          rcases HRO.out with ⟨h, _⟩ | ⟨_, h⟩
          · rw [hst] at h; cases h
          · exact h
        have HST : Hid (storeB l = true) := hst
        clear HRO hst
        go_wp2_with fail
        refine hsk.mono ?_
        rintro e wc ⟨rfl, hbc⟩
        have hruc := rdB_below hrub hbc
        have hrrc := rd_below hrrb hbc
        have hrxc := rd_below hrxb hbc
        have HBC := Lib.hid (hBb.trans (hbc.mono hsb))
        clear hsk hrub hrrb hrxb hBb hbc
        obtain ⟨ar, cr, hvr, HRA⟩ := rd_at hrrc
        subst hvr
        obtain ⟨ax, cx, hvx, HXA⟩ := rd_at hrxc
        subst hvx
        have HRA := Lib.hid HRA
        have HXA := Lib.hid HXA
        have HU := Lib.hid (fun W (h : Below wc.heap.size wc W) => rdB_below hruc h)
        have HR := Lib.hid (fun W (h : Below wc.heap.size wc W) => rd_below hrrc h)
        have HX := Lib.hid (fun W (h : Below wc.heap.size wc W) => rd_below hrxc h)
        have hbr := Below.refl wc.heap.size wc
        clear hruc hrrc hrxc
        go_wp2
        go_loopw [18] (fun i wr => ∃ k : Nat, k ≤ R.length ∧ i = .int .i64 k ∧ Below wc.heap.size wc wr) (fun i _ => R.length - (intOf i).toNat)
        case atStart => exact ⟨0, Nat.zero_le _, rfl, hbr⟩
        case round =>
          rename World => wr
          obtain ⟨k, hk, rfl, hb⟩ := hrel
          clear hbr
          by_cases hltk : k < R.length
          focus
            obtain ⟨b, off, rfl, hlt, hc⟩ := HRA.out k hltk
            have c0 := hc wr hb
            have hmem : R.getD k 0 ∈ out2 := (HIS.out.2 _).2 (Rch.root (get_getD hltk))
            have hhas := has_any _ out2 (R.getD k 0) wr (HX.out wr hb) (by omega) hmem
            obtain ⟨x, hx⟩ : ∃ x, x = R.getD k 0 := ⟨_, rfl⟩
            rw [← hx] at c0 hhas
            clear hx hmem hc
            go_wp2_with fail
            refine hhas.mono ?_
            rintro e wd ⟨rfl, rfl⟩
            clear hhas c0
            go_wp2
            go_roundw
            case rel => exact ⟨k + 1, by omega, by go_num, hb⟩
            case measure => simp [intOf]; omega
          obtain rfl : k = R.length := by omega
          go_wp2
          go_loopw [19] (fun i ws => ∃ k : Nat, k ≤ out2.length ∧ i = .int .i64 k ∧ Below wc.heap.size wc ws) (fun i _ => out2.length - (intOf i).toNat)
          case atStart => exact ⟨0, Nat.zero_le _, rfl, hb⟩
          case round =>
            rename World => ws
            clear hb
            obtain ⟨k, hk2, rfl, hb⟩ := hrel
            have hsb2 := hb.size
            by_cases hltk : k < out2.length
            focus
              obtain ⟨b, off, rfl, hlt, hc⟩ := HXA.out k hltk
              have c0 := hc ws hb
              obtain ⟨t2, th, hgv, htz, hnil, hall⟩ := get_is l (out2.getD k 0) R out2 HST.out HIS.out (get_getD hltk) HSM.out
              have hget := specGet_any u l (out2.getD k 0) ws (HU.out ws hb) (by omega) HSM.out
              rw [hgv] at hget
              obtain ⟨x, hx⟩ : ∃ x, x = out2.getD k 0 := ⟨_, rfl⟩
              rw [← hx] at c0 hget
              have HALL := Lib.hid hall
              have HNIL := Lib.hid hnil
              clear hx hc hgv hall hnil
              go_wp2_with fail
              refine hget.mono ?_
              rintro e wt ⟨rfl, hbt⟩
              have hbt2 := hb.trans (hbt.mono hsb2)
              have hst2 := hbt2.size
              have hch : Calls Tryz.prog 12 #[.string t2] wt fun e w' => ∃ v, e = .returned (.tuple #[v, .bool (childT t2).isSome]) ∧ w'.ownsRow wt.heap.size 2 1 v ((childT t2).getD []).length (cellsInt64S ((childT t2).getD [])) ∧ Below wt.heap.size wt w' := specChildren_any t2 wt htz
              have hcsl : ((childT t2).getD []).length ≤ 4 := child_len
              generalize (childT t2).getD [] = cs at hch hcsl HALL HNIL
              generalize (childT t2).isSome = cb2 at hch
              clear hget hbt c0 hb htz
              go_wp2_with fail
              refine hch.mono ?_
              rintro e wu ⟨vu, rfl, hou, hbu⟩
              have hbu2 := hbt2.trans (hbu.mono hst2)
              have hsu := hbu2.size
              obtain ⟨ac, cc, hvu, HCA⟩ := rd_at (rd_owns hou)
              subst hvu
              have HCA := Lib.hid HCA
              clear hch hbu hbt2 hou
              cases th with
              | false =>
                have h0 := HNIL.out rfl
                subst h0
                clear HALL HNIL HCA
                go_wp2
                refine wp_loop_rounds 1 ?_
                rw [rounds_succ]
                go_wp2
                go_roundw
                case rel => exact ⟨k + 1, by omega, by go_num, hbu2⟩
                case measure => simp [intOf]; omega
              | true =>
                have hbv := Below.refl wu.heap.size wu
                go_wp2
                go_loopw [24] (fun i wv => ∃ j : Nat, j ≤ cs.length ∧ i = .int .i64 j ∧ Below wu.heap.size wu wv) (fun i _ => cs.length - (intOf i).toNat)
                case atStart => exact ⟨0, Nat.zero_le _, rfl, hbv⟩
                case round =>
                  rename World => wv
                  clear hbv
                  obtain ⟨j, hj, rfl, hbv⟩ := hrel
                  have hbw := hbu2.trans (hbv.mono hsu)
                  by_cases hltj : j < cs.length
                  · obtain ⟨b2, off2, rfl, hlt2, hc2⟩ := HCA.out j hltj
                    have c1 := hc2 wv hbv
                    have hhas := has_any _ out2 (cs.getD j 0) wv (HX.out wv hbw) (by omega) (HALL.out _ (get_getD hltj))
                    obtain ⟨y, hy⟩ : ∃ y, y = cs.getD j 0 := ⟨_, rfl⟩
                    rw [← hy] at c1 hhas
                    clear hy hc2 hbw
                    go_wp2_with fail
                    refine hhas.mono ?_
                    rintro e wx ⟨rfl, rfl⟩
                    clear hhas c1
                    go_wp2
                    go_roundw
                    case rel => exact ⟨j + 1, by omega, by go_num, hbv⟩
                    case measure => simp [intOf]; omega
                  · obtain rfl : j = cs.length := by omega
                    clear HALL HNIL HCA hbv
                    go_wp2
                    go_roundw
                    case rel => exact ⟨k + 1, by omega, by go_num, hbw⟩
                    case measure => simp [intOf]; omega
            obtain rfl : k = out2.length := by omega
            have hBs := HBC.out.trans (hb.mono HBC.out.size)
            have hss := hBs.size
            go_wp2_with fail
            refine (HPK.out ws hBs).mono ?_
            rintro e wt ⟨r, rfl, hr0, hr1, hbt⟩
            have hbt2 := hb.trans (hbt.mono hsb2)
            clear hbt hBs hb
            go_wp2_with fail
            refine (roots2_any _ R wt (HR.out wt hbt2) (by omega)).mono ?_
            rintro e wu ⟨rfl, rfl⟩
            have hsu := hbt2.size
            obtain ⟨x0, hx0⟩ : ∃ x0, x0 = R.getD 0 0 := ⟨_, rfl⟩
            rw [← hx0]
            clear hx0
            have hal := hbt2.alloc hsu (.cells #[.int .i64 r, .int .i64 x0] 2)
            have htwo : Rd (wu.alloc (.cells #[.int .i64 r, .int .i64 x0] 2)) (.slice (some ⟨wu.heap.size, 0, none⟩) 2 2) (cellsInt64S [r, x0]) := ⟨_, 2, rfl, Nat.le_refl _, fun _ => ⟨_, 0, rfl, by rw [World.size_alloc]; omega, fun j hj => by
              have hj2 : j < 2 := by simpa using hj
              rcases (show j = 0 ∨ j = 1 by omega) with rfl | rfl <;> simp⟩⟩
            have hdrop := specDrop_any _ _ l [r, x0] (wu.alloc (.cells #[.int .i64 r, .int .i64 x0] 2)) (HU.out _ hal) htwo (by omega) HSM.out (by simp)
            have hdl2 : (dropT l [r, x0]).length ≤ 600 := Nat.le_trans (drop_len8 l [r, x0]) hll
            have HDS : Hid (∀ p ∈ dropT l [r, x0], p.2.size ≤ 1048576) := fun p hp => HSM.out p (drop_sub8 hp)
            have HLE : Hid (∀ L2, ReachIs (dropT l [r, x0]) R L2 → ∀ c ∈ L2, c ∈ out2) := fun L2 h c hc => by
              rcases h with ⟨h, _⟩ | ⟨_, h⟩
              · rw [drop_sto HST.out] at h; cases h
              · exact (HIS.out.2 c).2 (rch_less (fun d s hs => drop_stO HST.out hs) ((h.2 c).1 hc))
            generalize dropT l [r, x0] = DL at hdrop hdl2 HDS HLE
            clear hbt2 htwo
            go_wp2_with fail
            refine hdrop.mono ?_
            rintro e wv ⟨vd, rfl, hod, hbv⟩
            have hbv2 := hal.trans (hbv.mono (by rw [World.size_alloc]; omega))
            have hsv := hbv2.size
            have hrch := implReach_any _ _ DL R wv (rdB_owns hod) (HR.out wv hbv2) HRT.out (by omega) HDS.out (by omega)
            clear hdrop hal hbv hod
            go_wp2_with fail
            refine hrch.mono ?_
            rintro e ww ⟨ve, L2, rfl, hL2, hoe, hbw⟩
            have hbw2 := hbv2.trans (hbw.mono hsv)
            have hl2l : L2.length ≤ 1049776 := reachIs_len hL2 (by omega)
            have HL2 := Lib.hid (HLE.out L2 hL2)
            have hsw := hbw2.size
            obtain ⟨ae, ce, hve, HEA⟩ := rd_at (rd_owns hoe)
            subst hve
            have HEA := Lib.hid HEA
            have hby := Below.refl ww.heap.size ww
            clear hrch hbv2 hbw hoe hL2 HLE HDS hdl2
            go_wp2
            go_loopw [26] (fun i wy => ∃ j : Nat, j ≤ L2.length ∧ i = .int .i64 j ∧ Below ww.heap.size ww wy) (fun i _ => L2.length - (intOf i).toNat)
            case atStart => exact ⟨0, Nat.zero_le _, rfl, hby⟩
            case round =>
              rename World => wy
              clear hby
              obtain ⟨j, hj, rfl, hby⟩ := hrel
              have hbz2 := hbw2.trans (hby.mono hsw)
              by_cases hltj : j < L2.length
              · obtain ⟨b2, off2, rfl, hlt2, hc2⟩ := HEA.out j hltj
                have c1 := hc2 wy hby
                have hhas := has_any _ out2 (L2.getD j 0) wy (HX.out wy hbz2) (by omega) (HL2.out _ (get_getD hltj))
                obtain ⟨y, hy⟩ : ∃ y, y = L2.getD j 0 := ⟨_, rfl⟩
                rw [← hy] at c1 hhas
                clear hy hc2 hbz2
                go_wp2_with fail
                refine hhas.mono ?_
                rintro e wx ⟨rfl, rfl⟩
                clear hhas c1
                go_wp2
                go_roundw
                case rel => exact ⟨j + 1, by omega, by go_num, hby⟩
                case measure => simp [intOf]; omega
              · obtain rfl : j = L2.length := by omega
                have hris := rises_any8 _ out2 wy (HX.out wy hbz2) (by omega) HIS.out.1
                have HBZ := Lib.hid (HBC.out.trans (hbz2.mono HBC.out.size))
                have hsz := hbz2.size
                clear hby hbz2 HEA HL2
                go_wp2_with fail
                refine hris.mono ?_
                rintro e wz ⟨rfl, hbzz⟩
                have HBF := Lib.hid (HBZ.out.trans (hbzz.mono HBZ.out.size))
                clear hris hbzz
                go_wp2
                go_ret
                exact ⟨rfl, HBF.out⟩
set_option maxRecDepth 100000 in
theorem lifted (os : Os) (started : os.Started) (H : Type) (enc : TypeId × Value → H) :
    ReturnsInHanded {} Tryz.checked os 3 .any (Rows.fnReachSpec.pre6 enc Tryz.prog Tryz.f3 Rows.fnReachRow.domain false) (Rows.fnReachSpec.post enc Tryz.prog Tryz.f3 false true false false) := by
  refine returnsInHanded_of_change (C := Tryz.checked) own started (by kernel_rfl) Tryz.func3
    (ChangeSpec.witness6 (enc := enc) (C := Tryz.checked) false ⟨#[], #[.slice none 0 0], []⟩ 8 (by kernel_rfl) (by kernel_rfl) (by kernel_rfl) (by kernel_rfl)) ?_
  intro W base args ds gs before hval0 hW hcnd _
  have hval : ∀ (j : Nat) t v, Tryz.f3.params[j]? = some t → args[j]? = some v → Value.okWide Tryz.prog W .any base t v := hval0
  have hW' := hW
  obtain ⟨p, q, hA0, hV, rfl, hfz, hnd⟩ := hW
  have hA : DataW.TrodAll enc Tryz.prog W 0 (fun _ => true) true Tryz.f3.params.toList args.toList ds p := hA0
  rw [Tryz.params3] at hA hval
  obtain ⟨v0, vs0, d0, ds0, p0, q0, hargs0, rfl, rfl, h0, r0⟩ := trodAll_cons hA
  obtain ⟨rfl, rfl, rfl⟩ := trodAll_nil r0
  obtain rfl : args = #[v0] := by cases args; simp_all
  obtain ⟨rfl, rfl⟩ := trodVars_none hV
  obtain ⟨a0, len0, cap0, rfl⟩ := okWide_slice Tryz.underlying22 (hval 0 22 v0 rfl rfl)
  have k0 := h0
  have lt0 : ∀ x ∈ p0, x.block < W.heap.size := by obtain ⟨m, hm⟩ := k0; exact DataW.trod_lt m _ _ _ hm
  obtain ⟨zs0, hr0, hs0⟩ : ∃ zs : List Int, Rd W (.slice a0 len0 cap0) (zs.map (Value.int .u8)) ∧ ((∀ n ∈ zs, (Lit.int .u8 n).wf = true) ∧ zs.length ≤ 9223372036854775807) := by
    obtain ⟨fuel, hf⟩ := h0
    rcases open_ints Tryz.underlying22 Tryz.underlying5 (by kernel_rfl) hf with ⟨hcs, _⟩ | ⟨x, l, c, zs, hcs, _, hl, hm, hz, _, hcell, hwz⟩
    · simp [Value.cells] at hcs
      obtain ⟨rfl, rfl, rfl⟩ := hcs
      exact ⟨[], ⟨none, 0, rfl, Nat.le_refl _, fun h => absurd rfl h⟩, (fun x hx => absurd hx List.not_mem_nil), Nat.zero_le _⟩
    · simp [Value.cells] at hcs
      obtain ⟨rfl, rfl, rfl⟩ := hcs
      exact arg_ints .u8 hl hm (by simpa using hz) hcell hwz
  clear hA0 hval0
  refine (walk _ zs0 W hr0 (wf_bytes hs0.1) hs0.2).mono fun e W' ⟨he, bel⟩ => ?_
  subst he
  exact ⟨_, rfl, _, _, _, [], _, [], hW', trodAll_mk1 (shut_bool Tryz.underlying4 _), (trodAll_cons_mk (Below.trod laidOut (by kernel_rfl) (of_decide_eq_true (by kernel_rfl)) k0 bel lt0) trodAll_mk0), rfl, bel.frame _, fun h => by cases h⟩

theorem over : Rows.fnReachRow.holds Tryz.pinned (OpenSpec.ofChange Rows.fnReachSpec) :=
  OpenClaim.holds_of_wide 3 Tryz.f3 rfl rfl rfl rfl rfl rfl rfl ⟨rfl, rfl, rfl, rfl, rfl⟩ rfl rfl rfl rfl rfl (by kernel_rfl) Tryz.func3 (by kernel_rfl)
    (of_decide_eq_true (by kernel_rfl)) (by unfold Func.isWrapper; first | (rw [if_pos (by decide +kernel)]; kernel_rfl) | (rw [if_neg (by decide +kernel)]; exact ⟨rfl, rfl⟩))
    (fun os started H enc _ => lifted os started H enc)

theorem proved : Rows.FnReachSaid := over
end Go.Proofs.YtdiammehnakchacGreat.fnReach
