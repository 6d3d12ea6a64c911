/- FnCoded: at every code the program's Codes, Coded and Decoded answer as the specification's; what was decoded is coded so; codes are as long as was told, none begins with another one, and what is coded by them is decoded. For every code, without a condition. -/
import Derived.Test.YtiflpnmkclcimabCodedMath
import Derived.Test.YtiflpnmkclcimabDrawsM
import Derived.Test.YtiflpnmkclcimabCodesI
import Derived.Test.YtiflpnmkclcimabCodedI
import Derived.Test.YtiflpnmkclcimabDecodedI
import Derived.Test.YtiflpnmkclcimabLikeT
import Derived.Test.YtiflpnmkclcimabPick
import Derived.Test.YtiflpnmkclcimabArgs
import Derived.Deep.Cut
import Derived.Deep.CutRange
namespace Go.Proofs.Ytiflpnmkclcimab.fnCoded
open Go.ChangeShapes Go.WideShapes Go.ChangeAt Go.RowKit
set_option linter.unusedVariables false

theorem slice_shape {w : World} {b : Nat} {e : TypeId} {v : Value} {n : Nat} {xs : List Value} (h : w.ownsRow b e 1 v n xs) : ∃ ao cap, v = .slice ao n cap := by
  rcases h.2 with ⟨hv, h0⟩ | ⟨g, cap, cur, hv, _⟩
  · exact ⟨none, 0, by rw [hv, h0]⟩
  · exact ⟨_, _, hv⟩
theorem one_txt (W : World) (z : Int) (h : 0 ≤ z ∧ z ≤ 255) : (convert 22 9 (.slice (some ⟨W.heap.size, 0, none⟩) 1 1)).run Try.prog (W.alloc (.cells #[.int .u8 z] 5)) = .ok (.string (asB [z])) (W.alloc (.cells #[.int .u8 z] 5)) :=
  str_of (W.alloc (.cells #[.int .u8 z] 5)) W.heap.size 0 1 1 [z] (fun x hx => by rw [List.mem_singleton.1 hx]; exact h) (Nat.le_refl _) (fun j hj => by
    have hj' : j = 0 := by simpa using hj
    subst hj'
    simp)
theorem has_snoc {s : ByteArray} {z : Int} {n : Nat} (h : hasAll s n) (hz : 0 ≤ z ∧ z ≤ 255) (hzn : z.toNat < n) : hasAll (s ++ asB [z]) n := fun k hk => by
  have e : byts (s ++ asB [z]) = byts s ++ [z] := by
    have h1 := asB_byts [z] (fun x hx => by rw [List.mem_singleton.1 hx]; exact hz)
    unfold byts at h1 ⊢
    rw [ByteArray.data_append, Array.toList_append, List.map_append, h1]
  rw [e]
  rcases Nat.lt_or_ge k s.size with h2 | h2
  · have h3 := h k h2
    rw [List.getD, List.getElem?_append_left (by rw [byts_len]; exact h2)]
    exact h3
  · rw [ByteArray.size_append, asB_size] at hk
    simp at hk
    rw [List.getD, List.getElem?_append_right (by rw [byts_len]; exact h2), byts_len, show k - s.size = 0 by omega]
    exact hzn

set_option maxHeartbeats 8000000 in
set_option maxRecDepth 100000 in
theorem walk (va : Value) (bs : List Int) (w : World) (ha : Rd w va (cellsByteS bs)) (hz : Bytes bs) (hlen : bs.length ≤ 9223372036854775807) :
    Calls Try.prog 5 #[va] w fun e w' => e = .returned (.bool true) ∧ Below w.heap.size w w' := by
  by_cases hbig : 4096 < (bs.length : Int)
  · obtain ⟨ao, cap, rfl, _, _⟩ := ha
    have hla : (cellsByteS bs).length = bs.length := by simp
    rw [hla]
    go_enter Try.func5, Try.ntmps5
    go_wp2
    go_ret
    exact ⟨rfl, Below.refl _ _⟩
  have hl : bs.length ≤ 4096 := by omega
  have hbg : Calls Try.prog 6 #[va] w fun e w' => e = .returned (.bool false) ∧ w' = w := by
    obtain ⟨ao, cap, rfl, _, _⟩ := ha
    have hla : (cellsByteS bs).length = bs.length := by simp
    rw [hla]
    go_enter Try.func6, Try.ntmps6
    go_wp2
    go_ret
    exact ⟨by simp, rfl⟩
  have HZ := Lib.hid hz
  have HA := Lib.hid ha
  clear hz hbig hlen ha
  go_enter Try.func5, Try.ntmps5
  go_wp2_with fail
  refine hbg.mono ?_
  rintro e w' ⟨rfl, hw'⟩
  replace hw' := hw'.symm
  subst hw'
  clear hbg
  go_wp2_with fail
  refine (drawCodes_any va bs w HA.out hl HZ.out).mono ?_
  rintro e w1 ⟨v1, xs, rfl, hx1, ho1, hb1⟩
  have s1 := hb1.size
  go_wp2_with fail
  refine (implCodes_any v1 xs w1 (rd_owns ho1) (by omega)).mono ?_
  rintro e w2 ⟨vk, rfl, hok, hb2⟩
  have s2 := hb2.size
  have hB2 := hb1.trans (hb2.mono s1)
  have ho12 := owns_below ho1 hb2
  clear hb1 hb2 ho1
  go_wp2_with fail
  refine (drawCoded_any va bs w2 (rd_below HA.out hB2) hl HZ.out).mono ?_
  rintro e w3 ⟨s, vc, cs, rfl, hs8, hcs32, hcs40, hoc, hb3⟩
  have s3 := hb3.size
  have hB3 := hB2.trans (hb3.mono (by omega))
  have ho13 := owns_below ho12 hb3
  have hok3 := owns_below hok hb3
  have HC40 : Hid (∀ c ∈ cs, c.size ≤ 1099511627776) := fun c hc => by have := hcs40 c hc; omega
  clear hB2 hb3 ho12 hok hcs40
  have HCI := fun va w ha => implCoded_any s va cs w (by omega) ha (by omega) HC40.out
  have HCS := fun va w ha => specCoded_any s va cs w (by omega) ha (by omega) HC40.out
  obtain ⟨t, b1, ht⟩ : ∃ t b1, optV (codedT s cs) = .tuple #[.string t, .bool b1] := ⟨_, _, rfl⟩
  rw [ht] at HCI HCS
  clear ht
  have hb11 : (b1 != b1) = false := by simp
  go_wp2_with fail
  refine (HCI vc w3 (rd_owns hoc)).mono ?_
  rintro e w4 ⟨rfl, hb4⟩
  have s4 := hb4.size
  have hB4 := hB3.trans (hb4.mono (by omega))
  have ho14 := owns_below ho13 hb4
  have hok4 := owns_below hok3 hb4
  have hoc4 := owns_below hoc hb4
  clear hB3 hb4 ho13 hok3 hoc HCI
  go_wp2_with fail
  refine (drawDecoded_any va bs w4 (rd_below HA.out hB4) hl HZ.out).mono ?_
  rintro e w5 ⟨q, vo, os, rfl, hq20, hos33, hos40, hoo, hb5⟩
  have s5 := hb5.size
  have hB5 := hB4.trans (hb5.mono (by omega))
  have ho15 := owns_below ho14 hb5
  have hok5 := owns_below hok4 hb5
  have hoc5 := owns_below hoc4 hb5
  have HO40 : Hid (∀ c ∈ os, c.size ≤ 1099511627776) := fun c hc => by have := hos40 c hc; omega
  clear hB4 hb5 ho14 hok4 hoc4 hos40
  have HDI := fun va w ha => implDecoded_any q va os w (by omega) ha (by omega) HO40.out
  have HDS := fun va w ha => specDecoded_any q va os w (by omega) ha (by omega) HO40.out
  have HBACK : Hid (∀ u va w, decodedT q os = some u → u.size ≤ 20002 → Rd w va (cellsS os) → Calls Try.prog 29 #[.string u, va] w fun e w' => e = .returned (.tuple #[.string q, .bool true]) ∧ Below w.heap.size w w') := fun u va w h hu ha => by
    have h2 := implCoded_any u va os w (by omega) ha (by omega) HO40.out
    rw [decoded_coded h] at h2
    exact h2
  have HUS : Hid (∀ u, decodedT q os = some u → u.size ≤ 20002) := fun u h => by
    unfold decodedT at h
    by_cases hc : q.size ≤ 20000 ∧ os.length ≤ 32 ∧ ∀ i, i < os.length → (os.getD i ByteArray.empty).size ≠ 0
    · rw [if_pos hc] at h
      cases hd : Huff.decG (codeL os) (byts q) with
      | none => rw [hd] at h; cases h
      | some is =>
        rw [hd] at h
        have hu : u = asB (natI is) := (Option.some.inj h).symm
        obtain ⟨h1, h2⟩ := enc_some (Huff.dec_enc (codeL os) _ _ _ hd)
        have hcat : ∀ is : List Nat, (∀ i ∈ is, i < os.length) → is.length ≤ (catL (is.map fun i => os.getD i ByteArray.empty)).length := fun is => by
          induction is with
          | nil => intro _; exact Nat.zero_le _
          | cons a r ih =>
            intro hx
            have h3 := ih fun i hi => hx i (by simp [hi])
            have h4 := hc.2.2 a (hx a (by simp))
            have e : catL ((a :: r).map fun i => os.getD i ByteArray.empty) = byts (os.getD a ByteArray.empty) ++ catL (r.map fun i => os.getD i ByteArray.empty) := by simp [catL]
            rw [e, List.length_append, byts_len, List.length_cons]
            omega
        have h5 := hcat is h1
        rw [← h2, byts_len] at h5
        rw [hu, asB_size]
        unfold natI
        rw [List.length_map]
        omega
    · rw [if_neg hc] at h; cases h
  obtain ⟨u, b2, hu, HFINE⟩ : ∃ u b2, optV (decodedT q os) = .tuple #[.string u, .bool b2] ∧ Hid (b2 = true → decodedT q os = some u) := by
    cases hd : decodedT q os with
    | none => exact ⟨_, _, rfl, fun h => by cases h⟩
    | some u => exact ⟨_, _, rfl, fun _ => rfl⟩
  rw [hu] at HDI HDS
  clear hu
  have hb22 : (b2 != b2) = false := by simp
  go_wp2_with fail
  refine (HDI vo w5 (rd_owns hoo)).mono ?_
  rintro e w6 ⟨rfl, hb6⟩
  have s6 := hb6.size
  have hB6 := hB5.trans (hb6.mono (by omega))
  have ho16 := owns_below ho15 hb6
  have hok6 := owns_below hok5 hb6
  have hoc6 := owns_below hoc5 hb6
  have hoo6 := owns_below hoo hb6
  clear hB5 hb6 ho15 hok5 hoc5 hoo HDI
  go_wp2_with fail
  refine (HCS vc w6 (rd_owns hoc6)).mono ?_
  rintro e w7 ⟨rfl, hb7⟩
  have s7 := hb7.size
  have hB7 := hB6.trans (hb7.mono (by omega))
  have ho17 := owns_below ho16 hb7
  have hok7 := owns_below hok6 hb7
  have hoo7 := owns_below hoo6 hb7
  clear hB6 hb7 ho16 hok6 hoc6 hoo6 HCS
  go_wp2_with fail
  refine (specCodes_any v1 xs w7 (rd_owns ho17) (by omega)).mono ?_
  rintro e w8 ⟨vs, rfl, hos8, hb8⟩
  have s8 := hb8.size
  have hB8 := hB7.trans (hb8.mono (by omega))
  have ho18 := owns_below ho17 hb8
  have hok8 := owns_below hok7 hb8
  have hoo8 := owns_below hoo7 hb8
  have hL32 := (codesT_sizes xs).1
  clear hB7 hb8 ho17 hok7 hoo7
  go_wp2_with fail
  refine (likeTexts_same vk vs _ w8 (rd_owns hok8) (rd_owns hos8) (by omega)).mono ?_
  rintro e w9 ⟨rfl, hb9⟩
  have s9 := hb9.size
  have hB9 := hB8.trans (hb9.mono (by omega))
  have ho19 := owns_below ho18 hb9
  have hok9 := owns_below hok8 hb9
  have hoo9 := owns_below hoo8 hb9
  clear hB8 hb9 ho18 hok8 hoo8 hos8
  go_wp2_with fail
  refine (HDS vo w9 (rd_owns hoo9)).mono ?_
  rintro e w10 ⟨rfl, hb10⟩
  have s10 := hb10.size
  have hB10 := hB9.trans (hb10.mono (by omega))
  have ho110 := owns_below ho19 hb10
  have hok10 := owns_below hok9 hb10
  have hoo10 := owns_below hoo9 hb10
  clear hB9 hb10 ho19 hok9 hoo9 HDS
  go_upto_if 90 with (fail)
  go_cut [] from 91 (fun wx => Below w10.heap.size w10 wx)
  case first =>
    cases b2 with
    | false =>
      go_wp2
      go_meet
      exact Below.refl _ _
    | true =>
      have hbk := HBACK.out u vo w10 (HFINE.out rfl) (HUS.out u (HFINE.out rfl)) (rd_owns hoo10)
      clear HBACK HFINE HUS
      go_wp2_with fail
      refine hbk.mono ?_
      rintro e w11 ⟨rfl, hb11⟩
      clear hbk
      go_wp2
      go_meet
      exact hb11
  case rest =>
  have hb12 := hcut
  clear hcut
  rename World => w12
  have s12 := hb12.size
  have hB12 := hB10.trans (hb12.mono (by omega))
  have ho112 := owns_below ho110 hb12
  have hok12 := owns_below hok10 hb12
  clear hB10 hb12 ho110 hok10 hoo10 HBACK HFINE HUS
  have hkr := specKraft_any v1 xs w12 (rd_owns ho112) (by omega)
  cases hkb : kraftB xs
  focus
    obtain ⟨a1, c1, rfl⟩ := slice_shape ho112
    obtain ⟨ak, ck, rfl⟩ := slice_shape hok12
    have e0 : (codesT xs).length = 0 := by unfold codesT; rw [if_neg (by rw [hkb]; simp)]; rfl
    rw [e0]
    rw [hkb] at hkr
    clear ho112 hok12 hkb e0
    go_wp2_with fail
    refine hkr.mono ?_
    rintro e w13 ⟨rfl, hw13⟩
    replace hw13 := hw13.symm
    subst hw13
    clear hkr
    go_wp2
    go_ret
    exact ⟨rfl, hB12⟩
  have hKR := kr_of hkb
  have e1 : codesT xs = codesI xs := by unfold codesT; rw [if_pos hkb]
  rw [hkb] at hkr
  rw [e1, codesI_len] at hok12
  obtain ⟨g1, c1, rfl, _⟩ := owns_head ho112 hKR.len.1
  obtain ⟨gk, ck, rfl, _⟩ := owns_head hok12 hKR.len.1
  have HLC : Hid (∀ wx, Below w12.heap.size w12 wx → ∀ i, i < xs.length → wx.cell? ⟨g1, i, none⟩ = some (.int .i64 ((codeB xs i).size : Int))) := fun wx hb i hi => by
    rw [World.ownsRow.cellAt (owns_below ho112 hb) i (by omega), ints_get _ xs i hi, (hKR.all i hi).2.2, codeB_size]
  have HKC : Hid (∀ wx, Below w12.heap.size w12 wx → ∀ i, i < xs.length → wx.cell? ⟨gk, i, none⟩ = some (.string (codeB xs i))) := fun wx hb i hi => by
    rw [World.ownsRow.cellAt (owns_below hok12 hb) i (by omega), strs_get _ i (by rw [codesI_len]; exact hi), codesI_get xs hi]
  have HRK : Hid (∀ wx, Below w12.heap.size w12 wx → Rd wx (.slice (some ⟨gk, 0, none⟩) xs.length ck) (cellsS (codesI xs))) := fun wx hb => rd_owns (owns_below hok12 hb)
  have HAP : Hid (∀ i n, i < xs.length → n < xs.length → i ≠ n → (codeB xs n).extract 0 (codeB xs i).size ≠ codeB xs i) := fun i n hi hn hne => codes_apart5 hKR hi hn hne
  have HKS : Hid (∀ i, i < xs.length → (codeB xs i).size ≤ 40) := fun i hi => by rw [codeB_size]; exact (hKR.all i hi).2.1
  have HCC : Hid (∀ c ∈ codesI xs, c.size ≤ 1099511627776) := fun c hc => by
    unfold codesI at hc
    obtain ⟨i, hi, rfl⟩ := List.mem_map.1 hc
    have h2 := (hKR.all i (List.mem_range.1 hi)).2.1
    rw [codeB_size]
    omega
  have HCLN : Hid ((codesI xs).length = xs.length) := codesI_len xs
  have HTXT : Hid (∀ (s : ByteArray) wx, s.size ≤ 100 → hasAll s xs.length → Below w12.heap.size w12 wx → ∃ x : ByteArray, x.size ≤ 20000 ∧
      Calls Try.prog 29 #[.string s, .slice (some ⟨gk, 0, none⟩) xs.length ck] wx (fun e w' => e = .returned (.tuple #[.string x, .bool true]) ∧ Below wx.heap.size wx w') ∧
      ∀ wy, Below w12.heap.size w12 wy → Calls Try.prog 31 #[.string x, .slice (some ⟨gk, 0, none⟩) xs.length ck] wy (fun e w' => e = .returned (.tuple #[.string s, .bool true]) ∧ Below wy.heap.size wy w')) := fun s wx hs hh hb => by
    obtain ⟨x, h1, h2, h3⟩ := coded_decoded hKR hs hh
    refine ⟨x, h2, ?_, fun wy hy => ?_⟩
    · have h := implCoded_any s _ _ wx (by omega) (HRK.out wx hb) (by rw [HCLN.out]; omega) HCC.out
      rw [h1] at h
      exact h
    · have h := implDecoded_any x _ _ wy (by omega) (HRK.out wy hy) (by rw [HCLN.out]; omega) HCC.out
      rw [h3] at h
      exact h
  have hN1 := hKR.len.1
  generalize codeB xs = K at HLC HKC HAP HKS
  obtain ⟨N, hN⟩ : ∃ N, N = xs.length := ⟨_, rfl⟩
  rw [← hN] at hx1 hkr HLC HKC HAP HKS HTXT hN1 ⊢
  clear ho112 hok12 hkb e1 hKR HRK HCC HCLN hN hL32
  go_wp2_with fail
  refine hkr.mono ?_
  rintro e w13 ⟨rfl, hw13⟩
  replace hw13 := hw13.symm
  subst hw13
  clear hkr
  go_wp2
  go_loopw [19] (fun i wr => ∃ k : Nat, i = .int .i64 k ∧ k ≤ N ∧ Below w12.heap.size w12 wr) (fun i _ => N - (intOf i).toNat)
  case atStart => exact ⟨0, rfl, Nat.zero_le _, Below.refl _ _⟩
  case round =>
    obtain ⟨k, rfl, hk, hb⟩ := hrel
    by_cases hlt : k < N
    focus
      have ck1 := HLC.out wr hb k hlt
      have ck2 := HKC.out wr hb k hlt
      have hks := HKS.out k hlt
      have HCELL : Hid (∀ wx, Below w12.heap.size w12 wx → wx.cell? ⟨gk, k, none⟩ = some (.string (K k))) := fun wx hb => HKC.out wx hb k hlt
      have HAPk : Hid (∀ n, n < N → k ≠ n → (K n).extract 0 (K k).size ≠ K k) := fun n hn hne => HAP.out k n hlt hn hne
      obtain ⟨y, hy⟩ : ∃ y, y = K k := ⟨_, rfl⟩
      rw [← hy] at ck1 ck2 hks HCELL HAPk
      have hyy : ((y.size : Int) != (y.size : Int)) = false := by simp
      have hkI : (k : Int) < (N : Int) := by omega
      clear hy
      go_wp2
      go_quiet (fail)
      go_wp2
      go_loopw [20] (fun j w2 => ∃ n : Nat, j = .int .i64 n ∧ n ≤ N ∧ Below w12.heap.size w12 w2) (fun j _ => N - (intOf j).toNat)
      case atStart => exact ⟨0, rfl, Nat.zero_le _, below_drewN hb _⟩
      case round =>
        rename World => w14
        obtain ⟨n, rfl, hn, hb2⟩ := hrel
        clear ck1 ck2 hb
        by_cases hltn : n < N
        focus
          have cn := HKC.out w14 hb2 n hltn
          have ckk := HCELL.out w14 hb2
          have hns := HKS.out n hltn
          have hap := HAPk.out n hltn
          have hnI : (n : Int) < (N : Int) := by omega
          obtain ⟨x, hx⟩ : ∃ x, x = K n := ⟨_, rfl⟩
          rw [← hx] at cn hns hap
          clear hx
          by_cases hne : k = n
          focus
            have hD : ((n : Int) != (k : Int)) = false := by simp; omega
            clear hap hne
            go_wp2
            go_quiet (fail)
            go_wp2
            go_roundw
            case rel => exact ⟨n + 1, by go_num, by omega, below_drewN hb2 _⟩
            case measure => simp [intOf]; omega
          have hD : ((n : Int) != (k : Int)) = true := by simp; omega
          have hap2 := hap hne
          by_cases hsz : y.size ≤ x.size
          focus
            have hszI : (y.size : Int) ≤ (x.size : Int) := by omega
            have hsl : ∀ W : World, (Instr.slice 9 (.string x) none (some (.int .i64 (y.size : Int))) none).run Try.prog W = .ok (.string (x.extract 0 y.size)) W := fun W => by
              rw [run_slice_string_h W 9 x Try.underlying9 .i64 _ (by omega) (by omega), Int.toNat_natCast]
            obtain ⟨z, hz⟩ : ∃ z, z = x.extract 0 y.size := ⟨_, rfl⟩
            rw [← hz] at hsl hap2
            have hnl : ¬ z.toList = y.toList := fun e => hap2 (same_of e)
            have hnl2 : (z.toList == y.toList) = false := by simp [hnl]
            clear hz hap hap2 hne hsz
            go_wp2
            go_quiet (fail)
            go_wp2
            go_roundw
            case rel => exact ⟨n + 1, by go_num, by omega, below_drewN hb2 _⟩
            case measure => simp [intOf]; omega
          have hszD : decide ((y.size : Int) ≤ (x.size : Int)) = false := decide_eq_false (by omega)
          have hszE : decide (y.size ≤ x.size) = false := decide_eq_false hsz
          have hszI : ¬ (y.size : Int) ≤ (x.size : Int) := by omega
          clear hap hap2 hne hsz
          go_wp2
          go_quiet (fail)
          go_wp2
          go_roundw
          case rel => exact ⟨n + 1, by go_num, by omega, below_drewN hb2 _⟩
          case measure => simp [intOf]; omega
        obtain rfl : n = N := by omega
        go_wp2
        go_roundw
        case rel => exact ⟨k + 1, by go_num, by omega, hb2⟩
        case measure => simp [intOf]; omega
    obtain rfl : k = N := by omega
    clear HLC HKC HAP HKS
    go_wp2
    go_loopw [21, 22] (fun sv i w2 => ∃ (j : Nat) (s : ByteArray), sv = .string s ∧ i = .int .i64 j ∧ j ≤ 6 ∧ s.size = j ∧ Hid (hasAll s k) ∧ Below w12.heap.size w12 w2) (fun _ i _ => 6 - (intOf i).toNat)
    case atStart => exact ⟨0, ⟨#[]⟩, rfl, rfl, by omega, rfl, (fun j hj => absurd hj (Nat.not_lt_zero _)), hb⟩
    case round =>
      clear hb
      rename World => w15
      obtain ⟨j, s6t, rfl, rfl, hj6, hsj, hh, hb15⟩ := hrel
      have hB15 := hB12.trans (hb15.mono (by omega))
      by_cases hlt6 : j < 6
      focus
        go_wp2_with fail
        refine (pick_any va bs (20 + (j : Int)) (k : Int) w15 (rd_below HA.out hB15) hl (codeR HZ.out) (by omega) (by omega) (by omega) (by omega)).mono ?_
        rintro e w16 ⟨r, rfl, hr0, hr1, hb16⟩
        have hb16w := hb15.trans (hb16.mono hb15.size)
        have hr256 : r % 256 = r := by omega
        have hone := one_txt w16 r (by omega)
        have hadd : ∀ W : World, (Op.stringOp .add s6t (asB [r])).run Try.prog W = .ok (.string (s6t ++ asB [r])) W := fun W => run_string_add_sum W _ _ (by rw [asB_size]; simp; omega)
        have hsz2 : (s6t ++ asB [r] : ByteArray).size = j + 1 := by rw [ByteArray.size_append, asB_size, hsj]; rfl
        have HH2 : Hid (hasAll (s6t ++ asB [r]) k) := has_snoc hh.out (by omega) (by omega)
        have hbA := hb16w.alloc hb16w.size (.cells #[.int .u8 r] 5)
        obtain ⟨z, hz⟩ : ∃ z, z = asB [r] := ⟨_, rfl⟩
        rw [← hz] at hone hadd hsz2 HH2
        obtain ⟨s7, hs7⟩ : ∃ s7, s7 = s6t ++ z := ⟨_, rfl⟩
        rw [← hs7] at hadd hsz2 HH2
        clear hz hs7 hb15 hb16 hB15 hb16w hsj hh
        go_wp2
        go_roundw
        case rel => exact ⟨j + 1, s7, rfl, by go_num, by omega, hsz2, HH2.out, hbA⟩
        case measure => simp [intOf]; omega
      obtain ⟨x, hx2, hcx, hdx⟩ := HTXT.out s6t w15 (by omega) hh.out hb15
      have HDX := Lib.hid hdx
      clear HTXT hdx hh
      go_wp2_with fail
      refine hcx.mono ?_
      rintro e w17 ⟨rfl, hb17⟩
      have hb17w := hb15.trans (hb17.mono hb15.size)
      have hdy := HDX.out w17 hb17w
      clear hcx HDX
      go_wp2_with fail
      refine hdy.mono ?_
      rintro e w18 ⟨rfl, hb18⟩
      have hb18w := hb17w.trans (hb18.mono hb17w.size)
      have hB18 := hB12.trans (hb18w.mono (by omega))
      clear hdy hb17 hb18 hb17w hb18w hb15 hB15
      go_wp2
      go_ret
      exact ⟨rfl, hB18⟩

set_option maxRecDepth 100000 in
theorem lifted (os : Os) (started : os.Started) (H : Type) (enc : TypeId × Value → H) :
    ReturnsInHanded {} Try.checked os 5 .any (Rows.fnCodedSpec.pre6 enc Try.prog Try.f5 Rows.fnCodedRow.domain false) (Rows.fnCodedSpec.post enc Try.prog Try.f5 false true false false) := by
  refine returnsInHanded_of_change (C := Try.checked) own started (by kernel_rfl) Try.func5
    (ChangeSpec.witness6 (enc := enc) (C := Try.checked) false ⟨#[], #[.slice none 0 0], []⟩ 8 (by kernel_rfl) (by kernel_rfl) (by kernel_rfl) (by kernel_rfl)) ?_
  intro W base args ds gs before hval0 hW hcnd _
  have hval : ∀ (j : Nat) t v, Try.f5.params[j]? = some t → args[j]? = some v → Value.okWide Try.prog W .any base t v := hval0
  have hW' := hW
  obtain ⟨p, q, hA0, hV, rfl, hfz, hnd⟩ := hW
  have hA : DataW.TrodAll enc Try.prog W 0 (fun _ => true) true Try.f5.params.toList args.toList ds p := hA0
  rw [Try.params5] at hA hval
  obtain ⟨v0, vs0, d0, ds0, p0, q0, hargs0, rfl, rfl, h0, r0⟩ := trodAll_cons hA
  obtain ⟨rfl, rfl, rfl⟩ := trodAll_nil r0
  obtain rfl : args = #[v0] := by cases args; simp_all
  obtain ⟨rfl, rfl⟩ := trodVars_none hV
  obtain ⟨a0, len0, cap0, rfl⟩ := okWide_slice Try.underlying22 (hval 0 22 v0 rfl rfl)
  have k0 := h0
  have lt0 : ∀ x ∈ p0, x.block < W.heap.size := by obtain ⟨m, hm⟩ := k0; exact DataW.trod_lt m _ _ _ hm
  obtain ⟨zs0, hr0, hs0⟩ : ∃ zs : List Int, Rd W (.slice a0 len0 cap0) (zs.map (Value.int .u8)) ∧ ((∀ n ∈ zs, (Lit.int .u8 n).wf = true) ∧ zs.length ≤ 9223372036854775807) := by
    obtain ⟨fuel, hf⟩ := h0
    rcases open_ints Try.underlying22 Try.underlying5 (by kernel_rfl) hf with ⟨hcs, _⟩ | ⟨x, l, c, zs, hcs, _, hl, hm, hz, _, hcell, hwz⟩
    · simp [Value.cells] at hcs
      obtain ⟨rfl, rfl, rfl⟩ := hcs
      exact ⟨[], ⟨none, 0, rfl, Nat.le_refl _, fun h => absurd rfl h⟩, (fun x hx => absurd hx List.not_mem_nil), Nat.zero_le _⟩
    · simp [Value.cells] at hcs
      obtain ⟨rfl, rfl, rfl⟩ := hcs
      exact arg_ints .u8 hl hm (by simpa using hz) hcell hwz
  clear hA0 hval0
  refine (walk _ zs0 W hr0 (wf_bytes hs0.1) hs0.2).mono fun e W' ⟨he, bel⟩ => ?_
  subst he
  exact ⟨_, rfl, _, _, _, [], _, [], hW', trodAll_mk1 (shut_bool Try.underlying4 _), (trodAll_cons_mk (Below.trod laidOut (by kernel_rfl) (of_decide_eq_true (by kernel_rfl)) k0 bel lt0) trodAll_mk0), rfl, bel.frame _, fun h => by cases h⟩

theorem over : Rows.fnCodedRow.holds Try.pinned (OpenSpec.ofChange Rows.fnCodedSpec) :=
  OpenClaim.holds_of_wide 5 Try.f5 rfl rfl rfl rfl rfl rfl rfl ⟨rfl, rfl, rfl, rfl, rfl⟩ rfl rfl rfl rfl rfl (by kernel_rfl) Try.func5 (by kernel_rfl)
    (of_decide_eq_true (by kernel_rfl)) (by unfold Func.isWrapper; first | (rw [if_pos (by decide +kernel)]; kernel_rfl) | (rw [if_neg (by decide +kernel)]; exact ⟨rfl, rfl⟩))
    (fun os started H enc _ => lifted os started H enc)

theorem proved : Rows.FnCodedSaid := over
end Go.Proofs.Ytiflpnmkclcimab.fnCoded
