/- FnNumbers: numbers and texts are read from what they are laid as, and a list of no part of it. For every code, without a condition. -/
import Derived.Test.YtejaffjmdhnlaaaDraws2
import Derived.Test.YtejaffjmdhnlaaaRound
import Derived.Test.YtejaffjmdhnlaaaReadNums2
import Derived.Test.YtejaffjmdhnlaaaLikeI
import Derived.Test.YtejaffjmdhnlaaaPick
import Derived.Deep.RegionHeld
namespace Go.Proofs.Ytejaffjmdhnlaaa.fnNumbers
open Go.RowKit

theorem fin_len {α : Type} (it : Nat → Option (α × Nat)) : ∀ c p l q, itemsAt it c p = some (l, q) → l.length = c := by
  intro c
  induction c with
  | zero => intro p l q h; simp [itemsAt] at h; rw [h.1]; rfl
  | succ c ih =>
    intro p l q h
    rw [itemsAt] at h
    cases hx : it p with
    | none => rw [hx] at h; cases h
    | some y =>
      obtain ⟨x, k⟩ := y
      rw [hx] at h
      simp only at h
      cases hy : itemsAt it c (p + k) with
      | none => rw [hy] at h; cases h
      | some z =>
        obtain ⟨l', q'⟩ := z
        rw [hy] at h
        simp only [Option.some.injEq, Prod.mk.injEq] at h
        rw [← h.1, List.length_cons, ih _ _ _ hy]

theorem nums_len (zs : List Int) : ((readNums zs).getD []).length ≤ 200 := by
  unfold readNums readL
  cases h : rdP zs 0 with
  | none => simp
  | some x =>
    obtain ⟨c, k⟩ := x
    simp only
    by_cases hc : 200 < c
    · rw [if_pos hc]; simp
    · rw [if_neg hc]
      unfold fin
      cases hy : itemsAt (rdI zs) c k with
      | none => simp
      | some z =>
        obtain ⟨l, q⟩ := z
        have hl := fin_len _ _ _ _ _ hy
        simp only
        by_cases hq : q = zs.length
        · rw [if_pos hq]; simp; omega
        · rw [if_neg hq]; simp

theorem asB_of (s : ByteArray) : asB (byts s) = s := by
  unfold asB byts
  rw [List.map_map]
  have e : ((fun z : Int => UInt8.ofNat z.toNat) ∘ fun b : UInt8 => (b.toNat : Int)) = id := by
    funext b
    simp
  rw [e, List.map_id]

theorem rd_cells {w : World} {g n cap : Nat} {d : List Int} (h : Rd w (.slice (some ⟨g, 0, none⟩) n cap) (cellsByteS d)) : ∀ j u, (cellsByteS d)[j]? = some u → w.cell? ((⟨g, 0, none⟩ : Addr).add j) = some u := by
  intro j u hu
  obtain ⟨ao, cap', hv, _, hx⟩ := h
  have hj := (List.getElem?_eq_some_iff.1 hu).1
  obtain ⟨b, off, ha, _, hc⟩ := hx (by intro e; rw [e] at hj; simp at hj)
  simp only [Value.slice.injEq] at hv
  rw [ha] at hv
  simp only [Option.some.injEq, Addr.mk.injEq, and_true] at hv
  obtain ⟨⟨rfl, rfl⟩, _, _⟩ := hv
  rw [Addr.add_lit, hc j hj, hu]

theorem laid_of {sl : ByteArray} {l : List Int} (h : sl = asB (numsB l)) (he : sl.toList.isEmpty = false) : l.length ≤ 200 ∧ readNums (byts sl) = some l ∧ Bytes (byts sl) ∧ 0 < sl.size := by
  have hpos : 0 < sl.size := by
    by_cases h0 : 0 < sl.size
    · exact h0
    · have e : sl = ⟨#[]⟩ := by
        apply ByteArray.ext
        exact Array.eq_empty_of_size_eq_zero (by show sl.size = 0; omega)
      rw [e] at he
      exact absurd he (by simp [ByteArray.toList_eq])
  have hne : numsB l ≠ [] := by
    intro e
    rw [h, e] at hpos
    exact absurd hpos (by decide)
  have hc : l.length ≤ 200 ∧ ∀ x ∈ l, okN x := by
    by_cases hc : l.length ≤ 200 ∧ ∀ x ∈ l, okN x
    · exact hc
    · exact absurd (by unfold numsB; rw [if_neg hc]) hne
  have hn : numsB l = enc l.length ++ flat l := by unfold numsB; rw [if_pos hc]
  have hb : Bytes (numsB l) := by rw [hn]; exact bytes_append (enc_bytes _) (flat_bytes _)
  refine ⟨hc.1, ?_, byts_bytes sl, hpos⟩
  rw [h, asB_byts _ hb, hn]
  have hr := read_laid l [] hc.1 hc.2
  rw [List.append_nil] at hr
  rw [hr, if_pos rfl]

theorem cut_none {sl : ByteArray} {l : List Int} {r : Nat} (h : readNums (byts sl) = some l) (hr : r < sl.size) : readNums (byts (sl.extract 0 r)) = none := by
  have e : byts (sl.extract 0 r) = (byts sl).take r := by
    unfold byts
    rw [ByteArray.data_extract, Array.toList_extract, List.extract_eq_take_drop, List.drop_zero, Nat.sub_zero, List.map_take]
  rw [e]
  exact read_cut (byts_bytes sl) h (by rw [byts_len]; exact hr)

theorem below_drew {B : Nat} {a w : World} (h : Below B a w) : Below B a w.drew := h.drew
theorem rd_cap {w : World} {g n cap : Nat} {d : List Int} (h : Rd w (.slice (some ⟨g, 0, none⟩) n cap) (cellsByteS d)) : d.length ≤ cap := by
  obtain ⟨ao, cap', hv, hc, _⟩ := h
  simp only [Value.slice.injEq] at hv
  obtain ⟨_, _, rfl⟩ := hv
  simpa using hc
theorem str_rd {w : World} {g n cap q : Nat} {d : List Int} (h : Rd w (.slice (some ⟨g, 0, none⟩) n cap) (cellsByteS d)) (hb : Bytes d) (hq : q ≤ d.length) : (convert 22 9 (.slice (some ⟨g, 0, none⟩) q cap)).run Try.prog w = .ok (.string (asB (d.take q))) w :=
  str_of w g 0 cap q d hb hq (fun j hj => by
    have hc := rd_cells h j (.int .u8 (d.getD j 0)) (ints_get .u8 d j hj)
    rwa [Addr.add_lit] at hc)

theorem tuple_inj {a b c d : Int} (h : Value.tuple #[.int .i64 a, .int .i64 b] = .tuple #[.int .i64 c, .int .i64 d]) : a = c ∧ b = d := by
  simp only [Value.tuple.injEq, Array.mk.injEq, List.cons.injEq, Value.int.injEq, true_and, and_true] at h
  exact h

theorem rd_below2 {w w' : World} {v : Value} {xs : List Value} (h : Rd w v xs) (hb : Below w.heap.size w w') : Rd w' v xs := rd_below h hb

set_option maxHeartbeats 10000000 in
set_option maxRecDepth 100000 in
theorem walk (va : Value) (bs : List Int) (w : World) (ha : Rd w va (cellsByteS bs)) (hz : Bytes bs) :
    Calls Try.prog 3 #[va] w fun e w' => e = .returned (.bool true) ∧ Below w.heap.size w w' := by
  by_cases hbig : 4096 < (bs.length : Int)
  · obtain ⟨ao, cap, rfl, _, _⟩ := ha
    have hla : (cellsByteS bs).length = bs.length := by simp
    rw [hla]
    go_enter Try.func3, Try.ntmps3
    go_wp2
    go_ret
    exact ⟨rfl, Below.refl _ _⟩
  · have hl : bs.length ≤ 4096 := by omega
    have hbg : Calls Try.prog 5 #[va] w fun e w' => e = .returned (.bool false) ∧ w' = w := by
      obtain ⟨ao, cap, rfl, _, _⟩ := ha
      have hla : (cellsByteS bs).length = bs.length := by simp
      rw [hla]
      go_enter Try.func5, Try.ntmps5
      go_wp2
      go_ret
      exact ⟨by simp, rfl⟩
    obtain ⟨i0, hi, hz0, hz1, hz2⟩ := info_parts Try.infoB
    go_enter Try.func3, Try.ntmps3
    go_wp2_with fail
    refine hbg.mono ?_
    rintro e w' ⟨rfl, rfl⟩
    go_wp2_with fail
    refine (drawNumber_any va bs _ ha hl hz).mono ?_
    rintro e w1 ⟨n, rfl, hb1⟩
    have ha1 := rd_below ha hb1
    go_wp2_with fail
    refine (implNumber_any n w1).mono ?_
    rintro e w2 ⟨vb, rfl, hob, hb2⟩
    have ha2 := rd_below ha1 hb2
    have hB2 := hb1.trans (hb2.mono hb1.size)
    go_wp2_with fail
    refine (drawReadNumber_any va bs w2 ha2 hl hz).mono ?_
    rintro e w3 ⟨vd, d, rfl, hdb, hdl, hrd, hb3, gd, capd, rfl⟩
    have ha3 := rd_below ha2 hb3
    have hob3 := owns_below hob hb3
    have hB3 := hB2.trans (hb3.mono hB2.size)
    go_wp2_with fail
    refine (implRead_any _ d w3 hrd hdb (by omega)).mono ?_
    rintro e w4 ⟨rfl, hb4⟩
    have ha4 := rd_below ha3 hb4
    have hob4 := owns_below hob3 hb4
    have hrd4 := rd_below hrd hb4
    have hB4 := hB3.trans (hb4.mono hB3.size)
    have HFIN : Hid (rdV d = .tuple #[.int .i64 0, .int .i64 0] ∨ ∃ m k : Nat, rd d = some (m, k) ∧ rdV d = .tuple #[.int .i64 (m : Int), .int .i64 (k : Int)]) := by
      cases h : rd d with
      | none => exact .inl (rdV_none h)
      | some x => exact .inr ⟨x.1, x.2, rfl, rdV_some h⟩
    clear ha ha1 ha2 ha3 hb1 hb2 hb3 hb4 hob hob3 hrd hB2 hB3 hbg
    obtain ⟨p, q, hpq⟩ := rdV_form d
    have HPQ : Hid (rdV d = .tuple #[.int .i64 (p : Int), .int .i64 (q : Int)]) := hpq
    rw [hpq]
    clear hpq
    go_wp2_with fail
    refine (drawNumbers_any va bs w4 ha4 hl hz).mono ?_
    rintro e w5 ⟨vl, l, rfl, hll, hrl, hb5⟩
    have ha5 := rd_below ha4 hb5
    have hob5 := owns_below hob4 hb5
    have hrd5 := rd_below hrd4 hb5
    have hB5 := hB4.trans (hb5.mono hB4.size)
    go_wp2_with fail
    refine (implNumbers_any vl l w5 hrl (by omega)).mono ?_
    rintro e w6 ⟨rfl, hb6⟩
    obtain ⟨sl, hsl⟩ : ∃ sl, sl = asB (numsB l) := ⟨_, rfl⟩
    have HSL : Hid (sl = asB (numsB l)) := hsl
    rw [← hsl]
    clear hsl
    have ha6 := rd_below ha5 hb6
    have hob6 := owns_below hob5 hb6
    have hrd6 := rd_below hrd5 hb6
    have hrl6 := rd_below hrl hb6
    have hB6 := hB5.trans (hb6.mono hB5.size)
    clear ha4 ha5 hb5 hb6 hob4 hob5 hrd4 hrd5 hrl hB4 hB5
    go_wp2_with fail
    refine (drawReadNumbers_any va bs w6 ha6 hl hz).mono ?_
    rintro e w7 ⟨s, rfl, hss, hb7⟩
    have ha7 := rd_below ha6 hb7
    have hob7 := owns_below hob6 hb7
    have hrd7 := rd_below hrd6 hb7
    have hrl7 := rd_below hrl6 hb7
    have hB7 := hB6.trans (hb7.mono hB6.size)
    go_wp2_with fail
    refine (implReadNumbers_any s w7 (by omega)).mono ?_
    rintro e w8 ⟨vr, rfl, hor, hb8⟩
    have ha8 := rd_below ha7 hb8
    have hob8 := owns_below hob7 hb8
    have hrd8 := rd_below hrd7 hb8
    have hrl8 := rd_below hrl7 hb8
    have hB8 := hB7.trans (hb8.mono hB7.size)
    clear ha6 ha7 hb7 hb8 hob6 hob7 hrd6 hrd7 hrl6 hrl7 hB6 hB7
    obtain ⟨R, hR⟩ : ∃ R, R = readNums (byts s) := ⟨_, rfl⟩
    have HR : Hid (R = readNums (byts s)) := hR
    rw [← hR] at hor ⊢
    clear hR
    go_wp2_with fail
    refine (specRead_any _ d w8 hrd8 hdb (by omega)).mono ?_
    rintro e w9 ⟨rfl, hb9⟩
    rw [HPQ.out]
    have ha9 := rd_below ha8 hb9
    have hob9 := owns_below hob8 hb9
    have hrd9 := rd_below hrd8 hb9
    have hrl9 := rd_below hrl8 hb9
    have hor9 := owns_below hor hb9
    have hB9 := hB8.trans (hb9.mono hB8.size)
    clear ha8 hob8 hrd8 hrl8 hor hB8 hb9
    have hs9 := str_own hob9.drew (numB_bytes n)
    have hpp : ((p : Int) != (p : Int)) = false := by simp
    have hqq : ((q : Int) != (q : Int)) = false := by simp
    obtain ⟨nb, hnb⟩ : ∃ nb, nb = numB n := ⟨_, rfl⟩
    have HNB : Hid (nb = numB n) := hnb
    obtain ⟨sn, hsn⟩ : ∃ sn, sn = asB (numB n) := ⟨_, rfl⟩
    have HSN : Hid (sn = asB (numB n)) := hsn
    rw [← hsn] at hs9
    clear hnb hsn
    go_wp2
    go_region_held (fun W : World => (convert 22 9 vb).run Try.prog W = .ok (.string sn) W) (first | exact hs9 | exact hs10 | exact hs11) (first
      | (go_at_call 15; refine (specNumber_any n _).mono ?_; rintro e w10 ⟨vc, rfl, hoc, hb10⟩; have hsc := str_own hoc (numB_bytes n); rw [← HSN.out] at hsc; have hs10 := str_own (owns_below hob9.drew hb10) (numB_bytes n); rw [← HSN.out] at hs10; have HB10 : Hid (Below w9.heap.size w9 w10) := (Below.refl w9.heap.size w9).drew.trans hb10; have HRL10 : Hid (Rd w10 vl (cellsInt64S l)) := rd_below hrl9 HB10.out)
      | (go_at_call 16; refine (specNumbers_any vl l _ HRL10.out (by omega)).mono ?_; rintro e w11 ⟨rfl, hb11⟩; rw [← HSL.out]; have HB11 : Hid (Below w9.heap.size w9 w11) := HB10.out.trans (hb11.mono HB10.out.size); have hs11 := str_own (owns_below hob9 HB11.out) (numB_bytes n); rw [← HSN.out] at hs11))
    have hob11 := owns_below hob9 HB11.out
    have hrd11 := rd_below hrd9 HB11.out
    have hrl11 := rd_below hrl9 HB11.out
    have ha11 := rd_below ha9 HB11.out
    have hor11 := owns_below hor9 HB11.out
    have hB11 := hB9.trans (HB11.out.mono hB9.size)
    clear hs9 hs10 hs11 hsc hoc hb10 hb11 HB10 HB11 HRL10 hob9 hrd9 hrl9 ha9 hor9 hB9 hpp hqq HNB
    go_wp2_with fail
    refine (specReadNumbers_any s w11 (by omega)).mono ?_
    rintro e w12 ⟨vx, rfl, hox, hb12⟩
    rw [← HR.out] at hox ⊢
    have hob12 := owns_below hob11 hb12
    have hrd12 := rd_below hrd11 hb12
    have hrl12 := rd_below hrl11 hb12
    have ha12 := rd_below ha11 hb12
    have hor12 := owns_below hor11 hb12
    have hB12 := hB11.trans (hb12.mono hB11.size)
    clear hob11 hrd11 hrl11 ha11 hor11 hB11 hb12
    have hRl : Hid ((R.getD []).length ≤ 200) := by
      rw [HR.out]; exact nums_len (byts s)
    have hRR : (R.isSome != R.isSome) = false := by simp
    go_wp2_with fail
    refine (likeInts_any vr vx _ _ w12 (rd_owns hor12) (rd_owns hox) (by have := hRl.out; omega) (by have := hRl.out; omega)).mono ?_
    rintro e w13 ⟨rfl, hb13⟩
    rw [decide_eq_true rfl]
    have hob13 := owns_below hob12 hb13
    have hrd13 := rd_below hrd12 hb13
    have hrl13 := rd_below hrl12 hb13
    have ha13 := rd_below ha12 hb13
    have hor13 := owns_below hor12 hb13
    have hB13 := hB12.trans (hb13.mono hB12.size)
    clear hob12 hrd12 hrl12 ha12 hor12 hox hB12 hb13 hRR
    have HBACK : Hid (∀ l', R = some l' → asB (numsB l') = s) := fun l' h => by
      rw [HR.out] at h
      rw [(read_back (byts_bytes s) h).1, asB_of]
    have HM : Hid (∀ e w', NumsEnd sl w13 e w' → True) := fun _ _ _ => trivial
    obtain ⟨aob, capb, rfl⟩ := owns_slice hob13
    clear HR HM
    cases R
    rotate_left
    focus
      rename_i l'
      have hback := HBACK.out l' rfl
      go_wp2_with fail
      refine (implNumbers_any vr l' w13 (rd_owns hor13) (by have := hRl.out; simp at this; omega)).mono ?_
      rintro e w14 ⟨rfl, hb14⟩
      rw [hback]
      have hob14 := owns_below hob13 hb14
      have hrd14 := rd_below hrd13 hb14
      have hrl14 := rd_below hrl13 hb14
      have ha14 := rd_below ha13 hb14
      have hB14 := hB13.trans (hb14.mono hB13.size)
      clear hback HBACK hRl hob13 hrd13 hrl13 ha13 hor13 hB13 hb14
    rotate_left
    focus
      obtain ⟨w14, hw14, hob14, hrd14, hrl14, ha14, hB14⟩ : ∃ w14, w14 = w13 ∧ w14.ownsRow w1.heap.size 5 1 (.slice aob (numB n).length capb) (numB n).length (cellsByteS (numB n)) ∧ Rd w14 (.slice (some ⟨gd, 0, none⟩) d.length capd) (cellsByteS d) ∧ Rd w14 vl (cellsInt64S l) ∧ Rd w14 va (cellsByteS bs) ∧ Below w'.heap.size w' w14 := ⟨w13, rfl, hob13, hrd13, hrl13, ha13, hB13⟩
      rw [← hw14]
      clear HBACK hRl hob13 hrd13 hrl13 ha13 hor13 hB13 hw14
    all_goals
      have hs14 := hB14.size
      by_cases hpos : 0 < ((numB n).length : Int)
      focus
        have hin : 0 ≤ n ∧ n ≤ 1099511627776 := by
          by_cases h : 0 ≤ n ∧ n ≤ 1099511627776
          · exact h
          · rw [numB_out n h] at hpos; simp at hpos
        obtain ⟨m, rfl⟩ := Int.eq_ofNat_of_zero_le hin.1
        rw [numB_in m (by omega)] at hob14 hpos ⊢
        obtain ⟨gb, cb2, hgb, hgbo⟩ := owns_head hob14 (by omega)
        rw [hgb] at hob14 hgbo ⊢
        have hl6 := enc_len6 m (by omega)
        have hval : rdV (enc m ++ d) = .tuple #[.int .i64 (m : Int), .int .i64 ((enc m).length : Int)] := rdV_some (enc_rd (by omega) d)
        clear hgb
        go_wp2_with (at_builtin; refine wpList_append_own _ rfl (.tmp 101) (.tmp 102) 22 rfl w14.heap.size 5 i0 (.int .u8 0) 1 1 Try.underlying22 hi hz0 hz1 hz2 rfl (by decide) (.slice (some ⟨w14.heap.size, 0, none⟩) 0 0) 0 [] rfl ?b0 ⟨gb, 0, none⟩ (enc m).length cb2 (cellsByteS (enc m)) rfl ?b1 ?b2 ?b3 ?b4 ?b5 ?b6 ?_)
        case b0 => exact World.ownsRow_lit w14 #[] 0 (Nat.le_refl _) (Nat.zero_le _) rfl
        case b1 => simp
        case b2 => exact (hob14.alloc _).cells hgbo
        case b3 => exact ints_oneCell .u8 _
        case b4 => unfold maxLen; omega
        case b5 => omega
        case b6 => simp
        intro v20 w20 ho20 hg20 _
        have hb20 : Below w14.heap.size w14 w20 := ((Below.refl _ _).alloc (Nat.le_refl _) _).grown hg20 (by simp) (fun k hk => by simp [Value.ownBlock] at hk; omega)
        have hrd20 := rd_below hrd14 hb20
        have hs20 := hb20.size
        go_wp2_with (at_builtin; refine wpList_append_own _ rfl (.tmp 103) (.tmp 104) 22 rfl w14.heap.size 5 i0 (.int .u8 0) 1 1 Try.underlying22 hi hz0 hz1 hz2 rfl (by decide) _ _ _ rfl ho20 ⟨gd, 0, none⟩ d.length capd (cellsByteS d) rfl ?c0 ?c1 ?c2 ?c3 ?c4 ?c5 ?_)
        case c0 => simp
        case c1 => exact rd_cells hrd20
        case c2 => exact ints_oneCell .u8 _
        case c3 => unfold maxLen; omega
        case c4 => omega
        case c5 => exact hs20
        intro v21 w21 ho21 hg21 _
        have hb21 : Below w14.heap.size w14 w21 := hb20.grown hg21 hs20 (fun k hk => (ho20.lt k hk).1)
        have ho22 : w21.ownsRow w14.heap.size 5 1 v21 (enc m ++ d).length (cellsByteS (enc m ++ d)) := by
          have e : (enc m ++ d).length = (enc m).length + d.length := List.length_append
          rw [e]
          simpa using ho21
        go_wp2_with fail
        refine (implRead_any v21 (enc m ++ d) w21 (rd_owns ho22) (bytes_append (enc_bytes m) hdb) (by rw [List.length_append]; omega)).mono ?_
        rintro e w15 ⟨rfl, hb22⟩
        rw [hval]
        have hb15 : Below w14.heap.size w14 w15 := hb21.trans (hb22.mono hb21.size)
        have hrd15 := rd_below hrd14 hb15
        have hrl15 := rd_below hrl14 hb15
        have ha15 := rd_below ha14 hb15
        have hB15 := hB14.trans (hb15.mono hs14)
        clear hval hob14 hgbo ho20 hg20 hb20 hrd20 ho21 hg21 hb21 ho22 hb22 hrd14 hrl14 ha14 hB14 hb15
      rotate_left
      focus
        obtain ⟨w15, hw15, hrd15, hrl15, ha15, hB15⟩ : ∃ w15, w15 = w14 ∧ Rd w15 (.slice (some ⟨gd, 0, none⟩) d.length capd) (cellsByteS d) ∧ Rd w15 vl (cellsInt64S l) ∧ Rd w15 va (cellsByteS bs) ∧ Below w'.heap.size w' w15 := ⟨w14, rfl, hrd14, hrl14, ha14, hB14⟩
        rw [← hw15]
        clear hob14 hrd14 hrl14 ha14 hB14 hw15
      all_goals
        have hs15 := hB15.size
        by_cases hse : sl.toList.isEmpty = true
        focus
          obtain ⟨w16, hw16, hrd16, hB16⟩ : ∃ w16, w16 = w15 ∧ Rd w16 (.slice (some ⟨gd, 0, none⟩) d.length capd) (cellsByteS d) ∧ Below w'.heap.size w' w16 := ⟨w15, rfl, hrd15, hB15⟩
          rw [← hw16]
          clear hrd15 hrl15 ha15 hB15 hw16
          go_wp2
        rotate_left
        focus
          have he : sl.toList.isEmpty = false := by simpa using hse
          have hlaid := laid_of HSL.out he
          obtain ⟨hl200, hread, hbs, hszp⟩ := hlaid
          have hl3 := numsB_len l
          have hsz : sl.size ≤ 2000 := by rw [HSL.out, asB_size]; exact hl3
          clear hse
          go_wp2_with fail
          refine (implReadNumbers_any sl w15 (by omega)).mono ?_
          rintro e w16 ⟨vy, rfl, hoy, hb16⟩
          rw [hread] at hoy ⊢
          have hrd17 := rd_below hrd15 hb16
          have hrl17 := rd_below hrl15 hb16
          have ha17 := rd_below ha15 hb16
          have hB17 := hB15.trans (hb16.mono hs15)
          have hs16 := hB17.size
          clear hrd15 hrl15 ha15 hB15 hb16
          go_wp2_with fail
          refine (pick_any va bs 1 (sl.size : Int) w16 ha17 hl (bytes_all hz) (by omega) (by omega) (by omega) (by omega)).mono ?_
          rintro e w17 ⟨r, rfl, hr0, hr1, hb17⟩
          obtain ⟨r, rfl⟩ := Int.eq_ofNat_of_zero_le hr0
          have hslc : ∀ W : World, (Instr.slice 9 (.string sl) none (some (.int .i64 (r : Int))) none).run Try.prog W = .ok (.string (sl.extract 0 r)) W := fun W => by
            rw [run_slice_string_h W 9 sl Try.underlying9 .i64 _ (by omega) (by omega), Int.toNat_natCast]
          have hcut : readNums (byts (sl.extract 0 r)) = none := cut_none hread (by omega)
          have hcl : (sl.extract 0 r).size ≤ 1048576 := by rw [ByteArray.size_extract]; omega
          obtain ⟨t, ht⟩ : ∃ t, t = sl.extract 0 r := ⟨_, rfl⟩
          rw [← ht] at hslc hcut hcl
          have hoy18 := owns_below hoy hb17
          have hrd18 := rd_below hrd17 hb17
          have hrl18 := rd_below hrl17 hb17
          have hB18 := hB17.trans (hb17.mono hs16)
          have hs17 := hB18.size
          clear ht hoy hrd17 hrl17 ha17 hB17 hb17 hread
          go_wp2_with fail
          refine (implReadNumbers_any t w17 hcl).mono ?_
          rintro e w18 ⟨vz, rfl, _, hb18⟩
          rw [hcut]
          have hoy19 := owns_below hoy18 hb18
          have hrd19 := rd_below hrd18 hb18
          have hrl19 := rd_below hrl18 hb18
          have hB19 := hB18.trans (hb18.mono hs17)
          have hs18 := hB19.size
          clear hoy18 hrd18 hrl18 hB18 hb18 hcut hslc
          go_wp2_with fail
          refine (likeInts_any vy vl l l w18 (rd_owns hoy19) hrl19 (by omega) (by omega)).mono ?_
          rintro e w19 ⟨rfl, hb19⟩
          rw [decide_eq_true rfl]
          have hrd20 := rd_below hrd19 hb19
          have hB20 := hB19.trans (hb19.mono hs18)
          obtain ⟨w16', hw16, hrd16, hB16⟩ : ∃ w16', w16' = w19 ∧ Rd w16' (.slice (some ⟨gd, 0, none⟩) d.length capd) (cellsByteS d) ∧ Below w'.heap.size w' w16' := ⟨w19, rfl, hrd20, hB20⟩
          rw [← hw16]
          clear hoy19 hrd19 hrl19 hB19 hb19 hrd20 hB20 hw16
          go_wp2
        all_goals
          rcases HFIN.out with h | ⟨m2, k2, hrd2, hv⟩
          focus
            have e := tuple_inj (HPQ.out.symm.trans h)
            obtain rfl : p = 0 := by omega
            obtain rfl : q = 0 := by omega
            clear e
            clear h
            have hq00 : (((0 : Nat) : Int) == 0) = true := rfl
            go_quiet (fail)
            go_wp2
            go_ret
            exact ⟨rfl, below_drewN hB16 _⟩
          have e := tuple_inj (HPQ.out.symm.trans hv)
          obtain rfl : p = m2 := by omega
          obtain rfl : q = k2 := by omega
          clear hv e
          obtain ⟨htk, hq0⟩ := rd_enc hdb hrd2
          have hbd := rdP_some (zs := d) (p := 0) (m := p) (k := q) hrd2
          have hk0 : ((q : Int) == 0) = false := beq_eq_false_iff_ne.2 (by omega)
          have hcd := rd_cap hrd16
          have hslc := fun W => slice_to gd d.length capd q (by omega) hcd (by omega) W
          have hS16 := str_rd (rd_drew hrd16) hdb (q := q) (by omega)
          rw [htk] at hS16
          have HTK : Hid (d.take q = enc p) := htk
          obtain ⟨se, hse2⟩ : ∃ se, se = asB (enc p) := ⟨_, rfl⟩
          have HSE : Hid (se = asB (enc p)) := hse2
          rw [← hse2] at hS16
          have hbp : p ≤ 1099511627776 := hbd.2.2
          have hqd : q ≤ d.length := by omega
          clear hse2 htk hbd hrd2 hcd
          go_region_held (fun W : World => (convert 22 9 (.slice (some ⟨gd, 0, none⟩) q capd)).run Try.prog W = .ok (.string se) W) (first | exact hS16 | exact hS21) (first | (go_at_call 7; refine (implNumber_any (p : Int) _).mono ?_; rintro e w21 ⟨vn, rfl, hon, hb21⟩; have hsn2 := str_own hon (numB_bytes _); rw [numB_in p hbp, ← HSE.out] at hsn2; have hS21 := str_rd (rd_below (rd_drew hrd16) hb21) hdb (q := q) hqd; rw [HTK.out, ← HSE.out] at hS21; have hB21 : Below w'.heap.size w' w21 := (below_drew hB16).trans (hb21.mono hB16.size)))
          all_goals
            go_wp2
            go_ret
            exact ⟨by simp, hB21⟩

end Go.Proofs.Ytejaffjmdhnlaaa.fnNumbers
