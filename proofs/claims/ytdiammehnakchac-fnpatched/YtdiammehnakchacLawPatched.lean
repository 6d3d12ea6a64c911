/- FnPatched: the fresh text is patched of the old one and what changed, of an old text to itself nothing is sent but its rest. For every code, without a condition. -/
import Derived.Test.YtdiammehnakchacDrawsP
import Derived.Test.YtdiammehnakchacDelI
import Derived.Test.YtdiammehnakchacPatI
import Derived.Test.YtdiammehnakchacSent
import Derived.Test.YtdiammehnakchacBitE
import Derived.Test.YtdiammehnakchacGlued
import Derived.Test.YtdiammehnakchacLikeTT
import Derived.Test.YtdiammehnakchacArgs
import Derived.Deep.RegionHeld
namespace Go.Proofs.Ytdiammehnakchac.fnPatched
open Go.ChangeShapes Go.WideShapes Go.ChangeAt Go.RowKit
set_option linter.unusedVariables false
theorem catL_blks (s : ByteArray) {n : Nat} (hn : 1 ≤ n) : ∀ k, k ≤ blkN s n → catL (blksK s n k) = (byts s).take (k * n)
  | 0, _ => by simp [blksK, catL]
  | k + 1, h => by
    have hk : k * n < s.size := (blkN_lt hn).1 (by omega)
    rw [blksK_succ]
    have e : catL (blksK s n k ++ [blkT s n k]) = catL (blksK s n k) ++ byts (blkT s n k) := by simp [catL]
    rw [e, catL_blks s hn k (by omega)]
    unfold blkT
    rw [byts_cat3 (by omega) (by omega), Nat.add_mul, Nat.one_mul]
    rcases Nat.le_total (k * n + n) s.size with h1 | h1
    · rw [Nat.min_eq_left h1]
    · rw [Nat.min_eq_right h1, List.take_of_length_le (by rw [byts_len]; exact Nat.le_refl _), List.take_of_length_le (by rw [byts_len]; exact h1)]
theorem glued_blocks {s : ByteArray} {n : Int} (h : (blocksT s n).length ≠ 0) : gluedB (blocksT s n) = s := by
  unfold blocksT at h ⊢
  split
  · rename_i hk
    have hn : 1 ≤ n.toNat := by have := hk.1.1; omega
    have e := catL_blks s hn _ (Nat.le_refl _)
    have hfull : s.size ≤ blkN s n.toNat * n.toNat := by
      rcases Nat.lt_or_ge (blkN s n.toNat * n.toNat) s.size with g | g
      · exact absurd ((blkN_lt hn).2 g) (Nat.lt_irrefl _)
      · exact g
    rw [List.take_of_length_le (by rw [byts_len]; exact hfull)] at e
    unfold gluedB
    rw [e, if_pos (by rw [byts_len]; exact hk.2), asB_byts9]
  · rename_i hk
    rw [if_neg hk] at h
    exact absurd rfl h
theorem blocks_len {s : ByteArray} {n : Int} : (blocksT s n).length ≤ 20000 := by
  unfold blocksT
  split
  · rename_i h
    rw [blksK_len]
    exact Nat.le_trans (blkN_le (by have := h.1.1; omega)) h.2
  · exact Nat.zero_le _
theorem blocks_small {s : ByteArray} {n : Int} : ∀ x ∈ blocksT s n, x.size ≤ 100 := fun x hx => by
  unfold blocksT at hx
  split at hx
  · rename_i h
    unfold blksK at hx
    obtain ⟨k, _, rfl⟩ := List.mem_map.1 hx
    have h1 := blkT_le s n.toNat k
    have h2 := h.1.2
    omega
  · cases hx
set_option maxHeartbeats 8000000 in
set_option maxRecDepth 100000 in
theorem walk (va : Value) (bs : List Int) (w : World) (ha : Rd w va (cellsByteS bs)) (hz : Bytes bs) (hlen : bs.length ≤ 9223372036854775807) :
    Calls Try.prog 3 #[va] w fun e w' => e = .returned (.bool true) ∧ Below w.heap.size w w' := by
  by_cases hbig : 4096 < (bs.length : Int)
  · obtain ⟨ao, cap, rfl, _, _⟩ := ha
    have hla : (cellsByteS bs).length = bs.length := by simp
    rw [hla]
    go_enter Try.func3, Try.ntmps3
    go_wp2
    go_ret
    exact ⟨rfl, Below.refl _ _⟩
  · have hl : bs.length ≤ 4096 := by omega
    have hbg : Calls Try.prog 4 #[va] w fun e w' => e = .returned (.bool false) ∧ w' = w := by
      obtain ⟨ao, cap, rfl, _, _⟩ := ha
      have hla : (cellsByteS bs).length = bs.length := by simp
      rw [hla]
      go_enter Try.func4, Try.ntmps4
      go_wp2
      go_ret
      exact ⟨by simp, rfl⟩
    have hdr := drawDelta_any va bs w ha hl hz
    have HDP : Hid (∀ W, Below w.heap.size w W → Calls Try.prog 7 #[va] W fun e w' => ∃ (a : ByteArray) (v : Value) (l : List Bl) (n : Int), e = .returned (.tuple #[.string a, v, .int .i64 n]) ∧ a.size ≤ 60 ∧ l.length ≤ 150 ∧ (∀ p ∈ l, p.2.size ≤ 1048576) ∧ RdB w' v l ∧ Below W.heap.size W w') := fun W h => drawPatched_any va bs W (rd_below ha h) hl hz
    have HDB : Hid (∀ W, Below w.heap.size w W → Calls Try.prog 9 #[va] W fun e w' => ∃ (s : ByteArray) (n : Int), e = .returned (.tuple #[.string s, .int .i64 n]) ∧ s.size ≤ 60 ∧ -1 ≤ n ∧ n ≤ 101 ∧ Below W.heap.size W w') := fun W h => drawBlocks_any va bs W (rd_below ha h) hl hz
    clear ha hz hlen hbig
    go_enter Try.func3, Try.ntmps3
    go_wp2_with fail
    refine hbg.mono ?_
    rintro e w' ⟨rfl, rfl⟩
    clear hbg
    go_wp2_with fail
    refine hdr.mono ?_
    rintro e w1 ⟨a, b, n, rfl, has, hbs, hn0, hn1, hb1⟩
    clear hdr
    go_wp2_with fail
    refine (implDelta_any a b n w1).mono ?_
    rintro e w2 ⟨vd, rfl, hod, hb2⟩
    have hs1 := hb1.size
    have hB2 := hb1.trans (hb2.mono hs1)
    have hrd2 := rdB_owns hod
    clear hod hb1 hb2
    go_wp2_with fail
    refine (HDP.out w2 hB2).mono ?_
    rintro e w3 ⟨o, vl, l, m, rfl, hos, hll, hls, hrl3, hb3⟩
    have HLS := Lib.hid hls
    have hs2 := hB2.size
    have hB3 := hB2.trans (hb3.mono hs2)
    have hrd3 := rdB_below hrd2 hb3
    clear hrd2 hB2 hb3 hls
    have hip := implPatched_any o vl l m w3 hrl3 (by omega) HLS.out
    obtain ⟨pt, hpt⟩ : ∃ pt, pt = (patchT o l m).getD ⟨#[]⟩ := ⟨_, rfl⟩
    obtain ⟨pb, hpb⟩ : ∃ pb, pb = (patchT o l m).isSome := ⟨_, rfl⟩
    have HSP : Hid (∀ W, RdB W vl l → Calls Try.prog 11 #[.string o, vl, .int .i64 m] W fun e w' => e = .returned (.tuple #[.string pt, .bool pb]) ∧ Below W.heap.size W w') := fun W h => by
      rw [hpt, hpb]
      exact specPatched_any o vl l m W h (by omega) HLS.out
    unfold patR at hip
    rw [← hpt, ← hpb] at hip
    clear hpt hpb
    go_wp2_with fail
    refine hip.mono ?_
    rintro e w4 ⟨rfl, hb4⟩
    have hs3 := hB3.size
    have hB4 := hB3.trans (hb4.mono hs3)
    have hrd4 := rdB_below hrd3 hb4
    have hrl4 := rdB_below hrl3 hb4
    clear hip hrd3 hrl3 hB3 hb4
    go_wp2_with fail
    refine (HDB.out w4 hB4).mono ?_
    rintro e w5 ⟨s, k, rfl, hss, hk0, hk1, hb5⟩
    have hs4 := hB4.size
    have hB5 := hB4.trans (hb5.mono hs4)
    have hrd5 := rdB_below hrd4 hb5
    have hrl5 := rdB_below hrl4 hb5
    clear hrd4 hrl4 hB4 hb5 HDB HDP hl
    have hql : (blocksT s k).length ≤ 20000 := blocks_len
    have HQS : Hid (∀ x ∈ blocksT s k, x.size ≤ 100) := blocks_small
    have HQG : Hid ((blocksT s k).length ≠ 0 → gluedB (blocksT s k) = s) := glued_blocks
    have HIB := implBlocks_any s k w5
    have HSB := Lib.hid (fun W => specBlocks_any s k W)
    generalize blocksT s k = q at hql HQS HQG HIB HSB
    go_wp2_with fail
    refine HIB.mono ?_
    rintro e w6 ⟨vq, rfl, hoq, hb6⟩
    have hs5 := hB5.size
    have hB6 := hB5.trans (hb6.mono hs5)
    have hrd6 := rdB_below hrd5 hb6
    have hrl6 := rdB_below hrl5 hb6
    have hrq6 := rd_owns hoq
    clear HIB hrd5 hrl5 hoq hB5 hb6
    go_wp2_with fail
    refine (HSP.out w6 hrl6).mono ?_
    rintro e w7 ⟨rfl, hb7⟩
    have hs6 := hB6.size
    have hB7 := hB6.trans (hb7.mono hs6)
    have hrd7 := rdB_below hrd6 hb7
    have hrl7 := rdB_below hrl6 hb7
    have hrq7 := rd_below hrq6 hb7
    clear HSP hrd6 hrl6 hrq6 hB6 hb7
    have hpbb : (pb != pb) = false := by cases pb <;> rfl
    have hptt : (!pt.toList == pt.toList) = false := by simp
    have hdl := delta_lenP a b n
    have HSD := Lib.hid (fun W => specDelta_any a b n W)
    have HDS : Hid (∀ p ∈ deltaT a b n, p.2.size ≤ 1048576) := fun p hp => by
      have h1 := sent_mem hp
      have h2 := sent_delta (old := a) (fresh := b) (n := n)
      omega
    have HPD : Hid (okN9 n → patchT a (deltaT a b n) n = some b) := fun h => patch_delta h (by omega) (by omega)
    have HSN : Hid (sentT (deltaT a b n) ≤ b.size) := sent_delta
    have HNO : Hid (¬ okN9 n → deltaT a b n = []) := fun h => by unfold deltaT; rw [if_neg (fun k => h k.1)]
    generalize deltaT a b n = D at hrd7 hdl HSD HDS HPD HSN HNO
    go_wp2_with fail
    refine (HSD.out w7).mono ?_
    rintro e w8 ⟨ve, rfl, hoe, hb8⟩
    have hs7 := hB7.size
    have hB8 := hB7.trans (hb8.mono hs7)
    have hrd8 := rdB_below hrd7 hb8
    have hrl8 := rdB_below hrl7 hb8
    have hrq8 := rd_below hrq7 hb8
    have hlb := likeBits_any vd ve D D w8 hrd8 (rdB_owns hoe) (by omega) (by omega)
    rw [decide_eq_true rfl] at hlb
    clear HSD hrd7 hrl7 hrq7 hB7 hb8 hoe
    go_wp2_with fail
    refine hlb.mono ?_
    rintro e w9 ⟨rfl, hb9⟩
    have hs8 := hB8.size
    have hB9 := hB8.trans (hb9.mono hs8)
    have hrd9 := rdB_below hrd8 hb9
    have hrl9 := rdB_below hrl8 hb9
    have hrq9 := rd_below hrq8 hb9
    clear hlb hrd8 hrl8 hrq8 hB8 hb9
    go_wp2_with fail
    refine (HSB.out w9).mono ?_
    rintro e w10 ⟨vr, rfl, hor, hb10⟩
    have hs9 := hB9.size
    have hB10 := hB9.trans (hb10.mono hs9)
    have hrd10 := rdB_below hrd9 hb10
    have hrl10 := rdB_below hrl9 hb10
    have hrq10 := rd_below hrq9 hb10
    have hlt := likeTexts_any vq vr q q w10 hrq10 (rd_owns hor) (by omega) (by omega)
    rw [decide_eq_true rfl] at hlt
    clear HSB hrd9 hrl9 hrq9 hB9 hb10 hor
    go_wp2_with fail
    refine hlt.mono ?_
    rintro e w11 ⟨rfl, hb11⟩
    have hs10 := hB10.size
    have hB11 := hB10.trans (hb11.mono hs10)
    have hrd11 := rdB_below hrd10 hb11
    have hrl11 := rdB_below hrl10 hb11
    have hrq11 := rd_below hrq10 hb11
    clear hlt hrd10 hrl10 hrq10 hB10 hb11
    have HIS := Lib.hid (fun W (h : RdB W vl l) => implSent_any vl l W h (by omega) HLS.out)
    have HSS := Lib.hid (fun W (h : RdB W vl l) => specSent_any vl l W h (by omega) HLS.out)
    generalize sentT l = sl at HIS HSS
    have hsl : ((sl : Int) != (sl : Int)) = false := by simp
    go_wp2_with fail
    refine (HIS.out w11 hrl11).mono ?_
    rintro e w12 ⟨rfl, hb12⟩
    have hs11 := hB11.size
    have hB12 := hB11.trans (hb12.mono hs11)
    have hrd12 := rdB_below hrd11 hb12
    have hrl12 := rdB_below hrl11 hb12
    have hrq12 := rd_below hrq11 hb12
    clear HIS hrd11 hrl11 hrq11 hB11 hb12
    go_wp2_with fail
    refine (HSS.out w12 hrl12).mono ?_
    rintro e w13 ⟨rfl, hb13⟩
    have hs12 := hB12.size
    have hB13 := hB12.trans (hb13.mono hs12)
    have hrd13 := rdB_below hrd12 hb13
    have hrq13 := rd_below hrq12 hb13
    have hs13 := hB13.size
    clear HSS hrd12 hrl12 hrq12 hB12 hb13 HLS hpbb hptt
    obtain ⟨aq, cq, hvq⟩ : ∃ aq cq, vq = .slice aq q.length cq := by
      obtain ⟨ag, cg, h, _⟩ := hrq13
      rw [List.length_map] at h
      exact ⟨ag, cg, h⟩
    subst hvq
    obtain ⟨ad, cd, hvd⟩ := rdB_shape hrd13
    subst hvd
    by_cases hq0 : q.length = 0
    · have hq0I : ¬ (0 : Int) < (q.length : Int) := by omega
      clear hrq13 HQS HQG
      by_cases hok : okN9 n
      rotate_left
      · have hD := HNO.out hok
        subst hD
        have HB := Lib.hid hB13
        by_cases h1 : n < 1
        · clear hrd13 HPD HSN HDS HNO hok
          go_wp2
          go_ret
          exact ⟨rfl, HB.out⟩
        · have h2 : 100 < n := by
            rcases Int.lt_or_le 100 n with h | h
            · exact h
            · exact absurd ⟨by omega, h⟩ hok
          clear hrd13 HPD HSN HDS HNO hok
          go_wp2
          go_ret
          exact ⟨rfl, HB.out⟩
      have h1 : ¬ n < 1 := by have := hok.1; omega
      have h2 : ¬ 100 < n := by have := hok.2; omega
      have hpp := implPatched_any a (.slice ad D.length cd) D n w13 hrd13 (by omega) HDS.out
      rw [HPD.out hok] at hpp
      unfold patR at hpp
      simp only [Option.getD_some, Option.isSome_some] at hpp
      have hs13b := hB13.size
      go_wp2_with fail
      refine hpp.mono ?_
      rintro e w15 ⟨rfl, hb15⟩
      have hB15 := hB13.trans (hb15.mono hs13b)
      have hrd15 := rdB_below hrd13 hb15
      clear hpp hb15 hrd13
      have hbt : (b.toList == b.toList) = true := by simp
      have hsn := HSN.out
      have HSI := Lib.hid (fun W (h : RdB W (.slice ad D.length cd) D) => implSent_any _ D W h (by omega) HDS.out)
      have hdl2 := delta_lenP a a n
      have HDS2 : Hid (∀ p ∈ deltaT a a n, p.2.size ≤ 1048576) := fun p hp => by
        have h1 := sent_mem hp
        have h2 := sent_delta (old := a) (fresh := a) (n := n)
        omega
      have HD2 := Lib.hid (fun W => implDelta_any a a n W)
      have hself := sent_self hok (show a.size ≤ 20000 by omega)
      generalize deltaT a a n = E at hdl2 HDS2 HD2 hself
      have HSE := Lib.hid (fun W v (h : RdB W v E) => implSent_any v E W h (by omega) HDS2.out)
      generalize sentT D = sd at hsn HSI
      generalize sentT E = se at hself HSE
      have hsdI : (sd : Int) ≤ (b.size : Int) := by omega
      have hmod : (a.size : Int) % n = (se : Int) := hself.symm
      have hmod2 : Int.tmod (a.size : Int) n = (se : Int) := by rw [Int.tmod_eq_emod_of_nonneg (by omega)]; exact hmod
      have hn0 : n ≠ 0 := by omega
      have hss2 : ((se : Int) == (se : Int)) = true := by simp
      have hs15 := hB15.size
      have hB15d : Below w'.heap.size w' w15.drew := hB15.drew
      have hrd15d : RdB w15.drew (.slice ad D.length cd) D := rdB_below hrd15 (Below.refl _ _).drew
      clear hself HPD HSN HDS HDS2 HNO hok h1 h2
      go_wp2
      go_region_held (fun _ : World => True) (exact trivial) (first
        | (go_at_call 16; refine (HSE.out _ v17 (rdB_owns ho17)).mono ?_; rintro e w18 ⟨rfl, hb18⟩; have hB18 : Below w'.heap.size w' w18 := hB17.trans (hb18.mono hB17.size))
        | (go_at_call 6; refine (HD2.out _).mono ?_; rintro e w17 ⟨v17, rfl, ho17, hb17⟩; have hB17 : Below w'.heap.size w' w17 := hB16.trans (hb17.mono hB16.size))
        | (go_at_call 16; refine (HSI.out _ hrd15d).mono ?_; rintro e w16 ⟨rfl, hb16⟩; have hB16 : Below w'.heap.size w' w16 := hB15d.trans (hb16.mono hB15d.size)))
      all_goals
        have HB18 := Lib.hid hB18
        clear hrd15 hrd15d hB15 hB15d hb16 hB16 ho17 hb17 hB17 hb18 hB18
        go_wp2
        go_ret
        exact ⟨rfl, HB18.out⟩
    · have hq0I : (0 : Int) < (q.length : Int) := by omega
      have hgl := implGlued_any (.slice aq q.length cq) q w13 hrq13 (by omega) (fun x hx => by have := HQS.out x hx; omega)
      rw [HQG.out hq0] at hgl
      have hst : (!s.toList == s.toList) = false := by simp
      clear hrq13 HQS HQG
      go_wp2_with fail
      refine hgl.mono ?_
      rintro e w14 ⟨rfl, hb14⟩
      have hB14 := hB13.trans (hb14.mono hs13)
      have hrd14 := rdB_below hrd13 hb14
      clear hgl hb14 hrd13
      by_cases hok : okN9 n
      rotate_left
      · have hD := HNO.out hok
        subst hD
        have HB := Lib.hid hB14
        by_cases h1 : n < 1
        · clear hrd14 HPD HSN HDS HNO hok
          go_wp2
          go_ret
          exact ⟨rfl, HB.out⟩
        · have h2 : 100 < n := by
            rcases Int.lt_or_le 100 n with h | h
            · exact h
            · exact absurd ⟨by omega, h⟩ hok
          clear hrd14 HPD HSN HDS HNO hok
          go_wp2
          go_ret
          exact ⟨rfl, HB.out⟩
      have h1 : ¬ n < 1 := by have := hok.1; omega
      have h2 : ¬ 100 < n := by have := hok.2; omega
      have hpp := implPatched_any a (.slice ad D.length cd) D n w14 hrd14 (by omega) HDS.out
      rw [HPD.out hok] at hpp
      unfold patR at hpp
      simp only [Option.getD_some, Option.isSome_some] at hpp
      have hs13b := hB14.size
      go_wp2_with fail
      refine hpp.mono ?_
      rintro e w15 ⟨rfl, hb15⟩
      have hB15 := hB14.trans (hb15.mono hs13b)
      have hrd15 := rdB_below hrd14 hb15
      clear hpp hb15 hrd14
      have hbt : (b.toList == b.toList) = true := by simp
      have hsn := HSN.out
      have HSI := Lib.hid (fun W (h : RdB W (.slice ad D.length cd) D) => implSent_any _ D W h (by omega) HDS.out)
      have hdl2 := delta_lenP a a n
      have HDS2 : Hid (∀ p ∈ deltaT a a n, p.2.size ≤ 1048576) := fun p hp => by
        have h1 := sent_mem hp
        have h2 := sent_delta (old := a) (fresh := a) (n := n)
        omega
      have HD2 := Lib.hid (fun W => implDelta_any a a n W)
      have hself := sent_self hok (show a.size ≤ 20000 by omega)
      generalize deltaT a a n = E at hdl2 HDS2 HD2 hself
      have HSE := Lib.hid (fun W v (h : RdB W v E) => implSent_any v E W h (by omega) HDS2.out)
      generalize sentT D = sd at hsn HSI
      generalize sentT E = se at hself HSE
      have hsdI : (sd : Int) ≤ (b.size : Int) := by omega
      have hmod : (a.size : Int) % n = (se : Int) := hself.symm
      have hmod2 : Int.tmod (a.size : Int) n = (se : Int) := by rw [Int.tmod_eq_emod_of_nonneg (by omega)]; exact hmod
      have hn0 : n ≠ 0 := by omega
      have hss2 : ((se : Int) == (se : Int)) = true := by simp
      have hs15 := hB15.size
      have hB15d : Below w'.heap.size w' w15.drew := hB15.drew
      have hrd15d : RdB w15.drew (.slice ad D.length cd) D := rdB_below hrd15 (Below.refl _ _).drew
      clear hself HPD HSN HDS HDS2 HNO hok h1 h2
      go_wp2
      go_region_held (fun _ : World => True) (exact trivial) (first
        | (go_at_call 16; refine (HSE.out _ v17 (rdB_owns ho17)).mono ?_; rintro e w18 ⟨rfl, hb18⟩; have hB18 : Below w'.heap.size w' w18 := hB17.trans (hb18.mono hB17.size))
        | (go_at_call 6; refine (HD2.out _).mono ?_; rintro e w17 ⟨v17, rfl, ho17, hb17⟩; have hB17 : Below w'.heap.size w' w17 := hB16.trans (hb17.mono hB16.size))
        | (go_at_call 16; refine (HSI.out _ hrd15d).mono ?_; rintro e w16 ⟨rfl, hb16⟩; have hB16 : Below w'.heap.size w' w16 := hB15d.trans (hb16.mono hB15d.size)))
      all_goals
        have HB18 := Lib.hid hB18
        clear hrd15 hrd15d hB15 hB15d hb16 hB16 ho17 hb17 hB17 hb18 hB18
        go_wp2
        go_ret
        exact ⟨rfl, HB18.out⟩
set_option maxRecDepth 100000 in
theorem lifted (os : Os) (started : os.Started) (H : Type) (enc : TypeId × Value → H) :
    ReturnsInHanded {} Try.checked os 3 .any (Rows.fnPatchedSpec.pre6 enc Try.prog Try.f3 Rows.fnPatchedRow.domain false) (Rows.fnPatchedSpec.post enc Try.prog Try.f3 false true false false) := by
  refine returnsInHanded_of_change (C := Try.checked) own started (by kernel_rfl) Try.func3
    (ChangeSpec.witness6 (enc := enc) (C := Try.checked) false ⟨#[], #[.slice none 0 0], []⟩ 8 (by kernel_rfl) (by kernel_rfl) (by kernel_rfl) (by kernel_rfl)) ?_
  intro W base args ds gs before hval0 hW hcnd _
  have hval : ∀ (j : Nat) t v, Try.f3.params[j]? = some t → args[j]? = some v → Value.okWide Try.prog W .any base t v := hval0
  have hW' := hW
  obtain ⟨p, q, hA0, hV, rfl, hfz, hnd⟩ := hW
  have hA : DataW.TrodAll enc Try.prog W 0 (fun _ => true) true Try.f3.params.toList args.toList ds p := hA0
  rw [Try.params3] at hA hval
  obtain ⟨v0, vs0, d0, ds0, p0, q0, hargs0, rfl, rfl, h0, r0⟩ := trodAll_cons hA
  obtain ⟨rfl, rfl, rfl⟩ := trodAll_nil r0
  obtain rfl : args = #[v0] := by cases args; simp_all
  obtain ⟨rfl, rfl⟩ := trodVars_none hV
  obtain ⟨a0, len0, cap0, rfl⟩ := okWide_slice Try.underlying22 (hval 0 22 v0 rfl rfl)
  have k0 := h0
  have lt0 : ∀ x ∈ p0, x.block < W.heap.size := by obtain ⟨m, hm⟩ := k0; exact DataW.trod_lt m _ _ _ hm
  obtain ⟨zs0, hr0, hs0⟩ : ∃ zs : List Int, Rd W (.slice a0 len0 cap0) (zs.map (Value.int .u8)) ∧ ((∀ n ∈ zs, (Lit.int .u8 n).wf = true) ∧ zs.length ≤ 9223372036854775807) := by
    obtain ⟨fuel, hf⟩ := h0
    rcases open_ints Try.underlying22 Try.underlying5 (by kernel_rfl) hf with ⟨hcs, _⟩ | ⟨x, l, c, zs, hcs, _, hl, hm, hz, _, hcell, hwz⟩
    · simp [Value.cells] at hcs
      obtain ⟨rfl, rfl, rfl⟩ := hcs
      exact ⟨[], ⟨none, 0, rfl, Nat.le_refl _, fun h => absurd rfl h⟩, (fun x hx => absurd hx List.not_mem_nil), Nat.zero_le _⟩
    · simp [Value.cells] at hcs
      obtain ⟨rfl, rfl, rfl⟩ := hcs
      exact arg_ints .u8 hl hm (by simpa using hz) hcell hwz
  clear hA0 hval0
  refine (walk _ zs0 W hr0 (wf_bytes hs0.1) hs0.2).mono fun e W' ⟨he, bel⟩ => ?_
  subst he
  exact ⟨_, rfl, _, _, _, [], _, [], hW', trodAll_mk1 (shut_bool Try.underlying4 _), (trodAll_cons_mk (Below.trod laidOut (by kernel_rfl) (of_decide_eq_true (by kernel_rfl)) k0 bel lt0) trodAll_mk0), rfl, bel.frame _, fun h => by cases h⟩

theorem over : Rows.fnPatchedRow.holds Try.pinned (OpenSpec.ofChange Rows.fnPatchedSpec) :=
  OpenClaim.holds_of_wide 3 Try.f3 rfl rfl rfl rfl rfl rfl rfl ⟨rfl, rfl, rfl, rfl, rfl⟩ rfl rfl rfl rfl rfl (by kernel_rfl) Try.func3 (by kernel_rfl)
    (of_decide_eq_true (by kernel_rfl)) (by unfold Func.isWrapper; first | (rw [if_pos (by decide +kernel)]; kernel_rfl) | (rw [if_neg (by decide +kernel)]; exact ⟨rfl, rfl⟩))
    (fun os started H enc _ => lifted os started H enc)

theorem proved : Rows.FnPatchedSaid := over
end Go.Proofs.Ytdiammehnakchac.fnPatched
