/- FnGrown: the chunks are told of the root of what was grown, and each branch's children are there. For every code, without a condition. -/
import Derived.Test.YtdiammehnakchabDrawsU
import Derived.Test.YtdiammehnakchabGrI
import Derived.Test.YtdiammehnakchabTldI
import Derived.Test.YtdiammehnakchabTreeG
import Derived.Test.YtdiammehnakchabLikeTT
import Derived.Test.YtdiammehnakchabClashes
import Derived.Test.YtdiammehnakchabStoI
import Derived.Test.YtdiammehnakchabStoM
import Derived.Test.YtdiammehnakchabStoP
import Derived.Test.YtdiammehnakchabArgs
import Derived.Test.YtdiammehnakchabKidsMath
namespace Go.Proofs.Ytdiammehnakchab.fnGrown
open Go.ChangeShapes Go.WideShapes Go.ChangeAt Go.RowKit
set_option linter.unusedVariables false
theorem rdB_nil (w : World) (ao : Option Addr) (cap : Nat) : RdB w (.slice ao 0 cap) [] := ⟨ao, cap, rfl, Nat.zero_le _, fun h => absurd rfl h⟩
theorem told_len {st : Int → Option ByteArray} : ∀ (n : Nat) (d : Int) (out o : List ByteArray), out.length ≤ 64 → toldF st n d out = some o → o.length ≤ 64
  | 0, d, out, o, _, h => by cases h
  | n + 1, d, out, o, hl, h => by
    cases hs : st d with
    | none => rw [told_none n out hs] at h; cases h
    | some s =>
      cases hc : childT s with
      | none => rw [told_neither n out hs hc] at h; cases h
      | some l =>
        by_cases h0 : l = []
        · subst h0
          rw [told_leaf n out hs hc] at h
          split at h
          · obtain rfl := Option.some.inj h
            rw [List.length_append, List.length_singleton]; omega
          · cases h
        · rw [told_branch n out hs hc h0] at h
          have go : ∀ (l : List Int) (out o : List ByteArray), out.length ≤ 64 → l.foldlM (fun o e => toldF st n e o) out = some o → o.length ≤ 64 := by
            intro l
            induction l with
            | nil => intro out o hl h; obtain rfl := Option.some.inj h; exact hl
            | cons c r ih =>
              intro out o hl h
              rw [List.foldlM_cons] at h
              cases hx : toldF st n c out with
              | none => rw [hx] at h; cases h
              | some o2 =>
                rw [hx] at h
                exact ih o2 o (told_len n c out o2 hl hx) h
          exact go l out o hl h
theorem toldT_len (l : List Bl) (d : Int) : ((toldT l d).getD []).length ≤ 64 := by
  unfold toldT
  split
  · cases h : toldF (fun d => (findB l d).map (·.2)) 7 d [] with
    | none => exact Nat.zero_le _
    | some o => exact told_len 7 d [] o (Nat.zero_le _) h
  · exact Nat.zero_le _
set_option maxHeartbeats 8000000 in
set_option maxRecDepth 100000 in
theorem walk (va : Value) (bs : List Int) (w : World) (ha : Rd w va (cellsByteS bs)) (hz : Bytes bs) (hlen : bs.length ≤ 9223372036854775807) :
    Calls Try.prog 8 #[va] w fun e w' => e = .returned (.bool true) ∧ Below w.heap.size w w' := by
  by_cases hbig : 4096 < (bs.length : Int)
  · obtain ⟨ao, cap, rfl, _, _⟩ := ha
    have hla : (cellsByteS bs).length = bs.length := by simp
    rw [hla]
    go_enter Try.func8, Try.ntmps8
    go_wp2
    go_ret
    exact ⟨rfl, Below.refl _ _⟩
  · have hl : bs.length ≤ 4096 := by omega
    have hbg : Calls Try.prog 9 #[va] w fun e w' => e = .returned (.bool false) ∧ w' = w := by
      obtain ⟨ao, cap, rfl, _, _⟩ := ha
      have hla : (cellsByteS bs).length = bs.length := by simp
      rw [hla]
      go_enter Try.func9, Try.ntmps9
      go_wp2
      go_ret
      exact ⟨by simp, rfl⟩
    have hdr := drawGrown_any va bs w ha hl hz
    have HDT : Hid (∀ W, Below w.heap.size w W → Calls Try.prog 64 #[va] W (DTold W)) := fun W h => drawTold_any va bs W (rd_below ha h) hl hz
    clear ha hz hlen hbig
    go_enter Try.func8, Try.ntmps8
    go_wp2_with fail
    refine hbg.mono ?_
    rintro e w' ⟨rfl, rfl⟩
    clear hbg
    go_wp2_with fail
    refine hdr.mono ?_
    rintro e w1 ⟨vx, xs, rfl, hxl, hxs, hrx, hb1⟩
    clear hdr
    have HXS : Hid (∀ s ∈ xs, s.size ≤ 1048576) := fun s h => by have := hxs s h; omega
    clear hxs
    obtain ⟨ax, cx, hvx⟩ : ∃ ax cx, vx = .slice ax xs.length cx := by
      obtain ⟨ax, cx, h, _⟩ := hrx
      rw [List.length_map] at h
      exact ⟨ax, cx, h⟩
    subst hvx
    go_wp2_with fail
    refine (implGrown_any _ xs w1 hrx (by omega) HXS.out).mono ?_
    rintro e w2 ⟨vg, rfl, hog, hb2⟩
    have hs1 := hb1.size
    have hrx2 := rd_below hrx hb2
    have hrg2 := rd_owns hog
    have hB2 := hb1.trans (hb2.mono hs1)
    have hs2 := hB2.size
    clear hrx hog hb1 hb2
    go_wp2_with fail
    refine (HDT.out w2 hB2).mono ?_
    rintro e w3 ⟨vu, lb, dd, rfl, hlb, hsm, hdd, hru, hb3⟩
    have HSM : Hid (∀ p ∈ lb, p.2.size ≤ 1048576) := fun p hp => by have := hsm p hp; omega
    have hrx3 := rd_below hrx2 hb3
    have hrg3 := rd_below hrg2 hb3
    have hB3 := hB2.trans (hb3.mono hB2.size)
    clear hrx2 hrg2 hB2 hb3 HDT hsm hs1 hs2 hdd
    have htl : Hid (((toldT lb dd).getD []).length ≤ 64) := toldT_len lb dd
    go_wp2_with fail
    refine (implTold_any vu lb dd w3 hru (by omega) HSM.out).mono ?_
    rintro e w4 ⟨vt, rfl, hot, hb4⟩
    have hs3 := hB3.size
    have hrx4 := rd_below hrx3 hb4
    have hrg4 := rd_below hrg3 hb4
    have hru4 := rdB_below hru hb4
    have hrt4 := rd_owns hot
    have hB4 := hB3.trans (hb4.mono hs3)
    clear hrx3 hrg3 hru hot hB3 hb4 hs3
    go_wp2_with fail
    refine (specGrown_any _ xs w4 hrx4 (by omega) HXS.out).mono ?_
    rintro e w5 ⟨vh, rfl, hoh, hb5⟩
    have hs4 := hB4.size
    have hrx5 := rd_below hrx4 hb5
    have hrg5 := rd_below hrg4 hb5
    have hru5 := rdB_below hru4 hb5
    have hrt5 := rd_below hrt4 hb5
    have hrh5 := rd_owns hoh
    have hB5 := hB4.trans (hb5.mono hs4)
    clear hrx4 hrg4 hru4 hrt4 hoh hB4 hb5 hs4
    have hgl : (grownT xs).1.length ≤ 192 := tree_len xs
    have hrr : ((grownT xs).2 != (grownT xs).2) = false := by simp
    go_wp2_with fail
    refine (likeTexts_any vg vh _ _ w5 hrg5 hrh5 (by omega) (by omega)).mono ?_
    rintro e w6 ⟨rfl, hb6⟩
    rw [decide_eq_true rfl]
    have hs5 := hB5.size
    have hrx6 := rd_below hrx5 hb6
    have hrg6 := rd_below hrg5 hb6
    have hru6 := rdB_below hru5 hb6
    have hrt6 := rd_below hrt5 hb6
    have hB6 := hB5.trans (hb6.mono hs5)
    clear hrx5 hrg5 hru5 hrt5 hrh5 hB5 hb6 hs5
    go_wp2_with fail
    refine (specTold_any vu lb dd w6 hru6 (by omega) HSM.out).mono ?_
    rintro e w7 ⟨vk, rfl, hok, hb7⟩
    have hs6 := hB6.size
    have hrx7 := rd_below hrx6 hb7
    have hrg7 := rd_below hrg6 hb7
    have hrt7 := rd_below hrt6 hb7
    have hrk7 := rd_owns hok
    have hB7 := hB6.trans (hb7.mono hs6)
    have hl64 := htl.out
    have hlike := likeTexts_any vt vk ((toldT lb dd).getD []) ((toldT lb dd).getD []) w7 hrt7 hrk7 (by omega) (by omega)
    rw [decide_eq_true rfl] at hlike
    obtain ⟨ib, hib⟩ : ∃ ib, ib = (toldT lb dd).isSome := ⟨_, rfl⟩
    rw [← hib]
    have hbb : (ib != ib) = false := by cases ib <;> rfl
    clear hrx6 hrg6 hru6 hrt6 hok hB6 hb7 hs6 hrt7 hrk7 hl64 hib htl
    go_wp2_with fail
    refine hlike.mono ?_
    rintro e w8 ⟨rfl, hb8⟩
    have hs7 := hB7.size
    have hrx8 := rd_below hrx7 hb8
    have hrg8 := rd_below hrg7 hb8
    have hB8 := hB7.trans (hb8.mono hs7)
    clear hlike hrx7 hrg7 hB7 hb8 hs7 HSM hlb hbb
    have HB8 := Lib.hid hB8
    have HRX := Lib.hid (fun W (h : Below w8.heap.size w8 W) => rd_below hrx8 h)
    have HRG := Lib.hid (fun W (h : Below w8.heap.size w8 W) => rd_below hrg8 h)
    have hs8 := hB8.size
    have HLAST : Hid (0 < (grownT xs).1.length → digest ((grownT xs).1.getD ((grownT xs).1.length - 1) ByteArray.empty) = (grownT xs).2) := grown_last
    have HTS : Hid ((grownT xs).1 ≠ [] → ∀ A, MemP A (grownT xs).1 → toldT A (grownT xs).2 = some xs) := fun h A => told_store h
    have HKIDS : Hid (∀ k, k < (grownT xs).1.length → ∃ l, childT ((grownT xs).1.getD k ByteArray.empty) = some l ∧ l.length ≤ 4 ∧ ∀ d ∈ l, ∃ y ∈ (grownT xs).1.take k, d = digest y) := fun k h => grown_kids h
    have H2000 : Hid (∀ k, (grownT xs).1.length ≠ 0 → k < (grownT xs).1.length → ((grownT xs).1.getD k ByteArray.empty).size ≤ 2000) := fun k _ hk => grown_2000 (by
      have e : (grownT xs).1.getD k ByteArray.empty = (grownT xs).1[k] := by simp [List.getD, hk]
      rw [e]; exact List.getElem_mem hk)
    have HSZ : Hid (∀ s ∈ (grownT xs).1, s.size ≤ 9223372036854775807) := fun s hs => by have := grown_2000 hs; omega
    have HNIL : Hid ((grownT xs).1.length = 0 → (grownT xs).2 = 0) := fun h => by
      have e : (grownT xs).1 = [] := List.eq_nil_of_length_eq_zero h
      unfold grownT at e ⊢
      split at e
      · rename_i k
        exfalso
        have := congrArg List.length e
        simp at this
        have h2 := k.1
        rw [this.1] at h2
        simp at h2
      · rename_i k
        rw [if_neg k]
    have hgc := implClashes_any vg (grownT xs).1 w8 hrg8 (by omega) HSZ.out
    have hrin := root_in xs
    obtain ⟨g, hg⟩ : ∃ g, g = (grownT xs).1 := ⟨_, rfl⟩
    obtain ⟨r, hr⟩ : ∃ r, r = (grownT xs).2 := ⟨_, rfl⟩
    rw [← hg] at HRG HLAST HTS HKIDS H2000 HSZ HNIL hgc hgl hrg8
    rw [← hr] at HLAST HTS HNIL hrr hrin ⊢
    clear hg hr
    obtain ⟨ag, cg, hvg⟩ : ∃ ag cg, vg = .slice ag g.length cg := by
      obtain ⟨ag, cg, h, _⟩ := hrg8
      rw [List.length_map] at h
      exact ⟨ag, cg, h⟩
    subst hvg
    by_cases h0 : g.length = 0
    · have hr0 := HNIL.out h0
      subst hr0
      have h0I : ((g.length : Int) == 0) = true := by rw [h0]; rfl
      clear hgc hrg8 hrx8 HRX HRG HLAST HTS HKIDS H2000 HSZ HNIL hB8 hs8
      go_wp2
      go_ret
      exact ⟨rfl, HB8.out⟩
    have h0I : ((g.length : Int) == 0) = false := by rw [beq_eq_false_iff_ne]; omega
    have hpI : (0 : Int) < (g.length : Int) := by omega
    cases hcl : clashesB g with
    | true =>
      rw [hcl] at hgc
      clear hrg8 hrx8 HRX HRG HLAST HTS HKIDS H2000 HSZ HNIL hcl
      go_wp2_with fail
      refine hgc.mono ?_
      rintro e w9 ⟨rfl, hb9⟩
      have HB9 := Lib.hid (hB8.trans (hb9.mono hs8))
      clear hgc hb9 hB8
      go_wp2
      go_ret
      exact ⟨rfl, HB9.out⟩
    | false =>
      rw [hcl] at hgc
      have HM1 : Hid (∀ k A, k < g.length → MemP A (g.take k) → MemP (putT A (g.getD k ByteArray.empty)).1 (g.take (k + 1))) := fun k A hk h => by
        rw [take_more hk]
        refine mem_put h (fun t ht e => ?_) (H2000.out k h0 hk) (by rw [List.length_take]; omega)
        obtain ⟨i, hi, rfl⟩ := take_mem ht
        exact calm_all hcl hi hk e
      have HSM1 : Hid (∀ k A, k ≤ g.length → MemP A (g.take k) → A.length ≤ 192 ∧ ∀ p ∈ A, p.2.size ≤ 1048576) := fun k A hk h => ⟨by have := h.2.1; rw [List.length_take] at this; omega, fun p hp => by
        have := ((storeB_iff.1 h.1).2.1 p hp).1
        omega⟩
      have HMISS : Hid (∀ k A l, k < g.length → MemP A (g.take (k + 1)) → (∀ d ∈ l, ∃ y ∈ g.take k, d = digest y) → missT A l = []) := fun k A l hk h hd => miss_nil fun d hdl => by
        obtain ⟨y, hy, rfl⟩ := hd d hdl
        refine ⟨_, mem_find h ?_⟩
        rw [take_more hk]
        exact List.mem_append_left _ hy
      have HX : Hid (∃ b off cap, (Value.slice ag g.length cg) = .slice (some ⟨b, off, none⟩) g.length cap ∧ b < w8.heap.size ∧ ∀ j, j < g.length → w8.cell? ⟨b, off + j, none⟩ = some (.string (g.getD j ByteArray.empty))) := by
        have hla : (cellsS g).length = g.length := by simp
        obtain ⟨ao, cap, hv, hcap, hx⟩ := hrg8
        rw [hla] at hv hcap hx
        obtain ⟨b, off, h1, h3, h2⟩ := hx (by intro e; have := congrArg List.length e; rw [hla] at this; simp at this; rw [this] at hpI; simp at hpI)
        subst h1
        exact ⟨b, off, cap, hv, h3, fun j hj => (h2 j hj).trans (strs_get g j hj)⟩
      have HALL : Hid (g.take g.length = g) := List.take_length
      have HNE : Hid (g ≠ []) := fun e => h0 (by rw [e]; rfl)
      have HZ1 : Hid (MemP [] (g.take 0)) := mem_start
      clear hcl hrg8 hrx8 HSZ HNIL HRG
      obtain ⟨b, off, cap, hv, hlt, hc⟩ := HX.out
      simp only [Value.slice.injEq, true_and] at hv
      obtain ⟨rfl, rfl⟩ := hv
      have HC := Lib.hid hc
      clear hc HX
      obtain ⟨n, hn⟩ : ∃ n, n = g.length := ⟨_, rfl⟩
      have HN : Hid (n = g.length) := hn
      rw [← hn] at hgc hgl h0 h0I hpI HC HM1 HSM1 HMISS HALL HLAST HKIDS H2000 ⊢
      clear hn
      go_wp2_with fail
      refine hgc.mono ?_
      rintro e w9 ⟨rfl, hb9⟩
      have HB9 := Lib.hid hb9
      have hs9 := hb9.size
      have hb10 : Below w8.heap.size w8 (w9.alloc (.cells #[] 70)) := hb9.alloc hb9.size _
      clear hgc hb9
      go_wp2
      go_loopw [14, 15] (fun va i wr => ∃ (k : Nat) (A : List Bl), k ≤ n ∧ i = .int .i64 k ∧ RdB wr va A ∧ Hid (MemP A (g.take k)) ∧ Below w8.heap.size w8 wr) (fun _ i _ => n - (intOf i).toNat)
      case atStart => exact ⟨0, [], Nat.zero_le _, rfl, rdB_nil _ _ _, HZ1.out, hb10⟩
      case round =>
        rename World => wr
        obtain ⟨k, A, hk, rfl, hra, hma, hb⟩ := hrel
        clear hb10
        by_cases hltk : k < n
        focus
          have c0 := (hb.cell (p := ⟨b, off + k, none⟩) hlt).trans (HC.out k hltk)
          have HCK : Hid (∀ w', Below w8.heap.size w8 w' → w'.cell? ⟨b, off + k, none⟩ = some (.string (g.getD k ByteArray.empty))) := fun w' h => (h.cell (p := ⟨b, off + k, none⟩) hlt).trans (HC.out k hltk)
          have hma2 := Lib.hid (HM1.out k A hltk hma.out)
          have hk2 := H2000.out k h0 hltk
          obtain ⟨ch, hch, hch4, hchd⟩ := HKIDS.out k hltk
          have HMI : Hid (∀ B, MemP B (g.take (k + 1)) → missT B ch = []) := fun B hB => HMISS.out k B ch hltk hB hchd
          have HSMA := Lib.hid (HSM1.out k A hk hma.out)
          have HSM2 : Hid (∀ B, MemP B (g.take (k + 1)) → B.length ≤ 192 ∧ ∀ p ∈ B, p.2.size ≤ 1048576) := fun B hB => HSM1.out (k + 1) B hltk hB
          obtain ⟨x, hx⟩ : ∃ x, x = g.getD k ByteArray.empty := ⟨_, rfl⟩
          rw [← hx] at c0 hma2 hk2 HCK hch
          clear hx hchd hma
          have hcall := specPut_any _ A x wr hra (by have := HSMA.out.1; omega) HSMA.out.2 (by omega)
          obtain ⟨R, hR⟩ : ∃ R, R = putT A x := ⟨_, rfl⟩
          rw [← hR] at hcall hma2
          obtain ⟨R1, R2, R3⟩ := R
          simp only at hcall hma2
          have hs := hb.size
          clear hR hra HSMA
          go_wp2_with fail
          refine hcall.mono ?_
          rintro e w11 ⟨v11, rfl, ho11, hb11⟩
          have hB11 := hb.trans (hb11.mono hs)
          have hra11 := rdB_owns ho11
          have c1 := HCK.out w11 hB11
          have hs11 := hB11.size
          have hcc := implChildren_any x w11 (by omega)
          unfold ChildEnd at hcc
          rw [hch] at hcc
          simp only [Option.isSome_some, Option.getD_some] at hcc
          clear hcall hb11 ho11 hb c0 hch
          go_wp2_with fail
          refine hcc.mono ?_
          rintro e w12 ⟨v12, rfl, ho12, hb12⟩
          have hB12 := hB11.trans (hb12.mono hs11)
          have hra12 := rdB_below hra11 hb12
          have hrc12 := rd_owns ho12
          have hmiss := specMissing_any _ _ R1 ch w12 hra12 hrc12 (by have := (HSM2.out R1 hma2.out).1; omega) (HSM2.out R1 hma2.out).2 (by omega)
          rw [HMI.out R1 hma2.out] at hmiss
          have hs12 := hB12.size
          clear hcc hb12 ho12 hB11 hra11 c1 hrc12 HCK
          go_wp2_with fail
          refine hmiss.mono ?_
          rintro e w13 ⟨v13, rfl, ho13, hb13⟩
          obtain ⟨a13, c13, hv13⟩ := owns_slice ho13
          subst hv13
          have hB13 := hB12.trans (hb13.mono hs12)
          have hra13 := rdB_below hra12 hb13
          clear hmiss hb13 ho13 hB12 hra12
          go_wp2
          go_roundw
          case rel => exact ⟨k + 1, R1, by omega, by go_num, hra13, hma2, hB13⟩
          case measure => simp [intOf]; omega
        obtain rfl : k = n := by omega
        have hma2 := hma.out
        rw [HALL.out] at hma2
        obtain ⟨sa1, sa2⟩ := HSM1.out k A (Nat.le_refl _) hma.out
        have hts := HTS.out HNE.out A hma2
        have htn := told_less (r := r) hma2.1
        have hst := Lib.hid sa2
        have hs := hb.size
        have hlast := HLAST.out (by omega)
        have hcl := HC.out (k - 1) (by omega)
        have HCL : Hid (∀ w', Below w8.heap.size w8 w' → w'.cell? ⟨b, off + (k - 1), none⟩ = some (.string (g.getD (k - 1) ByteArray.empty))) := fun w' h => (h.cell (p := ⟨b, off + (k - 1), none⟩) hlt).trans hcl
        have hz2 := H2000.out (k - 1) h0 (by omega)
        obtain ⟨j, hj⟩ : ∃ j : Nat, j = k - 1 := ⟨_, rfl⟩
        have hjk : (k : Int) - 1 = (j : Int) := by omega
        have hjn : (j : Int) < (k : Int) := by omega
        rw [← hj] at HCL hlast hz2
        obtain ⟨x, hx⟩ : ∃ x, x = g.getD j ByteArray.empty := ⟨_, rfl⟩
        rw [← hx] at HCL hlast hz2
        have HLA := Lib.hid hlast
        clear hma hma2 HM1 HSM1 HMISS HTS HLAST HKIDS H2000 HC HALL HZ1 hcl hj hx hlast HNE
        have hcall := implTold_any _ A r wr hra (by omega) sa2
        rw [hts] at hcall
        unfold ToldEnd at hcall
        simp only [Option.isSome_some, Option.getD_some] at hcall
        clear hts sa2
        go_wp2_with fail
        refine hcall.mono ?_
        rintro e w11 ⟨v11, rfl, ho11, hb11⟩
        have hB11 := hb.trans (hb11.mono hs)
        have hra11 := rdB_below hra hb11
        have hs11 := hB11.size
        have hal := (Below.refl w11.heap.size w11).alloc (Nat.le_refl _) (.cells #[.int .i64 r] 2)
        have hone : Rd (w11.alloc (.cells #[.int .i64 r] 2)) (.slice (some ⟨w11.heap.size, 0, none⟩) 1 1) (cellsInt64S [r]) := ⟨_, 1, rfl, Nat.le_refl _, fun _ => ⟨_, 0, rfl, by rw [World.size_alloc]; omega, fun j hj => by
          obtain rfl : j = 0 := by simpa using hj
          simp⟩⟩
        have hdrop := specDrop_any _ _ A [r] (w11.alloc (.cells #[.int .i64 r] 2)) (rdB_below hra11 hal) hone (by omega) hst.out (by simp)
        have hdl : (dropT A [r]).length ≤ 192 := Nat.le_trans (drop_len8 A [r]) sa1
        have hds : Hid (∀ p ∈ dropT A [r], p.2.size ≤ 1048576) := fun p hp => hst.out p (drop_sub8 hp)
        have hrt11 := rd_owns ho11
        clear hcall hb hra hone hra11 ho11
        go_wp2_with fail
        refine hdrop.mono ?_
        rintro e w12 ⟨v12, rfl, ho12, hb12⟩
        have hb12' := hal.trans (hb12.mono hal.size)
        have hB12 := hB11.trans (hb12'.mono hs11)
        have hrt12 := rd_below hrt11 hb12'
        have hrd12 := rdB_owns ho12
        have hs12 := hB12.size
        have hcall := implTold_any _ (dropT A [r]) r w12 hrd12 (by omega) hds.out
        rw [htn] at hcall
        unfold ToldEnd at hcall
        simp only [Option.isSome_none, Option.getD_none] at hcall
        clear hdrop hal hb12 hb12' hrt11 ho12 hrd12 htn hdl hds hst hb11 hB11
        go_wp2_with fail
        refine hcall.mono ?_
        rintro e w13 ⟨v13, rfl, ho13, hb13⟩
        obtain ⟨a13, c13, hv13⟩ := owns_slice ho13
        subst hv13
        have hB13 := hB12.trans (hb13.mono hs12)
        have hrt13 := rd_below hrt12 hb13
        have hs13 := hB13.size
        have hlike := likeTexts_any v11 _ xs xs w13 hrt13 (HRX.out w13 hB13) (by omega) (by omega)
        rw [decide_eq_true rfl] at hlike
        clear hcall hb13 hrt12 hrt13 ho13 hB12
        go_wp2_with fail
        refine hlike.mono ?_
        rintro e w14 ⟨rfl, hb14⟩
        have hB14 := hB13.trans (hb14.mono hs13)
        have c1 := HCL.out w14 hB14
        have hdig := implDigest_any x w14 (by omega)
        rw [HLA.out] at hdig
        have hre : (r == r) = true := by simp
        have HB14 := Lib.hid (HB8.out.trans (hB14.mono hs8))
        clear hlike hb14 hB13 hB14 HCL
        go_wp2_with fail
        refine hdig.mono ?_
        rintro e w15 ⟨rfl, rfl⟩
        clear hdig c1
        go_wp2
        go_ret
        exact ⟨rfl, HB14.out⟩
set_option maxRecDepth 100000 in
theorem lifted (os : Os) (started : os.Started) (H : Type) (enc : TypeId × Value → H) :
    ReturnsInHanded {} Try.checked os 8 .any (Rows.fnGrownSpec.pre6 enc Try.prog Try.f8 Rows.fnGrownRow.domain false) (Rows.fnGrownSpec.post enc Try.prog Try.f8 false true false false) := by
  refine returnsInHanded_of_change (C := Try.checked) own started (by kernel_rfl) Try.func8
    (ChangeSpec.witness6 (enc := enc) (C := Try.checked) false ⟨#[], #[.slice none 0 0], []⟩ 8 (by kernel_rfl) (by kernel_rfl) (by kernel_rfl) (by kernel_rfl)) ?_
  intro W base args ds gs before hval0 hW hcnd _
  have hval : ∀ (j : Nat) t v, Try.f8.params[j]? = some t → args[j]? = some v → Value.okWide Try.prog W .any base t v := hval0
  have hW' := hW
  obtain ⟨p, q, hA0, hV, rfl, hfz, hnd⟩ := hW
  have hA : DataW.TrodAll enc Try.prog W 0 (fun _ => true) true Try.f8.params.toList args.toList ds p := hA0
  rw [Try.params8] at hA hval
  obtain ⟨v0, vs0, d0, ds0, p0, q0, hargs0, rfl, rfl, h0, r0⟩ := trodAll_cons hA
  obtain ⟨rfl, rfl, rfl⟩ := trodAll_nil r0
  obtain rfl : args = #[v0] := by cases args; simp_all
  obtain ⟨rfl, rfl⟩ := trodVars_none hV
  obtain ⟨a0, len0, cap0, rfl⟩ := okWide_slice Try.underlying22 (hval 0 22 v0 rfl rfl)
  have k0 := h0
  have lt0 : ∀ x ∈ p0, x.block < W.heap.size := by obtain ⟨m, hm⟩ := k0; exact DataW.trod_lt m _ _ _ hm
  obtain ⟨zs0, hr0, hs0⟩ : ∃ zs : List Int, Rd W (.slice a0 len0 cap0) (zs.map (Value.int .u8)) ∧ ((∀ n ∈ zs, (Lit.int .u8 n).wf = true) ∧ zs.length ≤ 9223372036854775807) := by
    obtain ⟨fuel, hf⟩ := h0
    rcases open_ints Try.underlying22 Try.underlying5 (by kernel_rfl) hf with ⟨hcs, _⟩ | ⟨x, l, c, zs, hcs, _, hl, hm, hz, _, hcell, hwz⟩
    · simp [Value.cells] at hcs
      obtain ⟨rfl, rfl, rfl⟩ := hcs
      exact ⟨[], ⟨none, 0, rfl, Nat.le_refl _, fun h => absurd rfl h⟩, (fun x hx => absurd hx List.not_mem_nil), Nat.zero_le _⟩
    · simp [Value.cells] at hcs
      obtain ⟨rfl, rfl, rfl⟩ := hcs
      exact arg_ints .u8 hl hm (by simpa using hz) hcell hwz
  clear hA0 hval0
  refine (walk _ zs0 W hr0 (wf_bytes hs0.1) hs0.2).mono fun e W' ⟨he, bel⟩ => ?_
  subst he
  exact ⟨_, rfl, _, _, _, [], _, [], hW', trodAll_mk1 (shut_bool Try.underlying4 _), (trodAll_cons_mk (Below.trod laidOut (by kernel_rfl) (of_decide_eq_true (by kernel_rfl)) k0 bel lt0) trodAll_mk0), rfl, bel.frame _, fun h => by cases h⟩

theorem over : Rows.fnGrownRow.holds Try.pinned (OpenSpec.ofChange Rows.fnGrownSpec) :=
  OpenClaim.holds_of_wide 8 Try.f8 rfl rfl rfl rfl rfl rfl rfl ⟨rfl, rfl, rfl, rfl, rfl⟩ rfl rfl rfl rfl rfl (by kernel_rfl) Try.func8 (by kernel_rfl)
    (of_decide_eq_true (by kernel_rfl)) (by unfold Func.isWrapper; first | (rw [if_pos (by decide +kernel)]; kernel_rfl) | (rw [if_neg (by decide +kernel)]; exact ⟨rfl, rfl⟩))
    (fun os started H enc _ => lifted os started H enc)

theorem proved : Rows.FnGrownSaid := over
end Go.Proofs.Ytdiammehnakchab.fnGrown
