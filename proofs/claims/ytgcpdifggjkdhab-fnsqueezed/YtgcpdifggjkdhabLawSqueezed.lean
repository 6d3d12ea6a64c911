/- FnSqueezed: at every code Squeezed, Loosed and Gain answer as the specification's; what is squeezed is loosed, is at most as many bytes more as there are bytes 1; so of a text said twice. For every code, without a condition. -/
import Derived.Test.YtgcpdifggjkdhabDrawsS
import Derived.Test.YtgcpdifggjkdhabSqJ
import Derived.Test.YtgcpdifggjkdhabLoJ
import Derived.Test.YtgcpdifggjkdhabArgs
namespace Go.Proofs.Ytgcpdifggjkdhab.fnSqueezed
open Go.ChangeShapes Go.WideShapes Go.ChangeAt Go.RowKit
set_option linter.unusedVariables false
theorem byts_back (s : ByteArray) : asB (byts s) = s := byts_one (by rw [asB_byts _ (byts_ok s)])
/-- what is squeezed is loosed -/
theorem lo_back {s : ByteArray} (h : s.size ≤ 20000) : loT (sqT s) = some s := by
  unfold loT sqT
  rw [if_neg (by omega), asB_byts _ (Sq.sq_bytes (byts_ok s) 0)]
  have e := Sq.lo_sq (L := byts s) (by rw [byts_len]; exact h) 0 (Nat.zero_le _)
  rw [List.take_zero] at e
  rw [e, Option.map_some, byts_back]
theorem gain_ones {s : ByteArray} (h : s.size ≤ 20000) : -((Sq.ones (byts s) s.size : Nat) : Int) ≤ gainT s := by
  unfold gainT sqT
  rw [if_neg (by omega), asB_size]
  have e := Sq.sq_len (L := byts s) 0 (Nat.zero_le _)
  have e0 : Sq.ones (byts s) 0 = 0 := rfl
  rw [byts_len] at e
  omega
set_option maxHeartbeats 4000000 in
set_option maxRecDepth 100000 in
theorem walk (va : Value) (bs : List Int) (w : World) (ha : Rd w va (cellsByteS bs)) (hz : Bytes bs) (hlen : bs.length ≤ 9223372036854775807) :
    Calls Try.prog 6 #[va] w fun e w' => e = .returned (.bool true) ∧ Below w.heap.size w w' := by
  by_cases hbig : 4096 < (bs.length : Int)
  · obtain ⟨ao, cap, rfl, _, _⟩ := ha
    have hla : (cellsByteS bs).length = bs.length := by simp
    rw [hla]
    go_enter Try.func6, Try.ntmps6
    go_wp2
    go_ret
    exact ⟨rfl, Below.refl _ _⟩
  have hl : bs.length ≤ 4096 := by omega
  have hbg : Calls Try.prog 7 #[va] w fun e w' => e = .returned (.bool false) ∧ w' = w := by
    obtain ⟨ao, cap, rfl, _, _⟩ := ha
    have hla : (cellsByteS bs).length = bs.length := by simp
    rw [hla]
    go_enter Try.func7, Try.ntmps7
    go_wp2
    go_ret
    exact ⟨by simp, rfl⟩
  have HZ := Lib.hid hz
  have HA := Lib.hid ha
  clear hz hbig hlen ha
  go_enter Try.func6, Try.ntmps6
  go_wp2_with fail
  refine hbg.mono ?_
  rintro e w' ⟨rfl, hw'⟩
  replace hw' := hw'.symm
  subst hw'
  clear hbg
  go_wp2_with fail
  refine (drawSqueezed_any va bs w HA.out hl HZ.out).mono ?_
  rintro e w1 ⟨s, rfl, hs, hb1⟩
  have s1 := hb1.size
  have HGI := Lib.hid (fun W => implGain_any s W (by omega))
  have HGS := Lib.hid (fun W => specGain_any s W (by omega))
  have HSS := Lib.hid (fun W => specSqueezed_any s W (by omega))
  have hgi : -40000 ≤ gainT s ∧ gainT s ≤ 20001 := by
    have := sqT_size s
    unfold gainT
    omega
  have HGAIN : Hid (s.size ≤ 20000 → -((Sq.ones (byts s) s.size : Nat) : Int) ≤ gainT s) := gain_ones
  obtain ⟨g, hg⟩ : ∃ g, g = gainT s := ⟨_, rfl⟩
  rw [← hg] at HGI HGS hgi HGAIN
  clear hg
  go_wp2_with fail
  refine (implSqueezed_any s w1 (by omega)).mono ?_
  rintro e w2 ⟨rfl, hb2⟩
  have hB2 := hb1.trans (hb2.mono s1)
  have HEMP : Hid (20000 < s.size → sqT s = ⟨#[]⟩) := fun h => by
    show _ = _
    unfold sqT
    rw [if_pos h]
  have HLB := Lib.hid (fun W => implLoosed_any (sqT s) W (by have := sqT_size s; omega))
  have HBACK : Hid (s.size ≤ 20000 → loT (sqT s) = some s) := lo_back
  obtain ⟨t, ht⟩ : ∃ t, t = sqT s := ⟨_, rfl⟩
  rw [← ht] at HSS HEMP HLB HBACK ⊢
  clear hb1 hb2 ht
  go_wp2_with fail
  refine (drawLoosed_any va bs w2 (rd_below HA.out hB2) hl HZ.out).mono ?_
  rintro e w3 ⟨q, rfl, hq, hb3⟩
  have hB3 := hB2.trans (hb3.mono hB2.size)
  have HQI := Lib.hid (fun W => implLoosed_any q W (by omega))
  have HQS := Lib.hid (fun W => specLoosed_any q W (by omega))
  obtain ⟨u, b, hub, HNO⟩ : ∃ u b, loV (loT q) = .tuple #[.string u, .bool b] ∧ Hid (b = false → u = ⟨#[]⟩) := by
    cases loT q with
    | none => exact ⟨_, _, rfl, fun _ => rfl⟩
    | some x => exact ⟨_, _, rfl, fun h => by cases h⟩
  rw [hub] at HQI HQS
  clear hB2 hb3 hub hq
  go_wp2_with fail
  refine (HQI.out w3).mono ?_
  rintro e w4 ⟨rfl, hb4⟩
  have hB4 := hB3.trans (hb4.mono hB3.size)
  clear hB3 hb4
  go_wp2_with fail
  refine (HQS.out w4).mono ?_
  rintro e w5 ⟨rfl, hb5⟩
  have hB5 := hB4.trans (hb5.mono hB4.size)
  have hbb : (b != b) = false := by simp
  have hgg : (g != g) = false := by simp
  clear hB4 hb5 HQI HQS
  go_wp2_with fail
  refine (HSS.out w5).mono ?_
  rintro e w6 ⟨rfl, hb6⟩
  have hB6 := hB5.trans (hb6.mono hB5.size)
  clear hB5 hb6 HSS
  go_wp2_with fail
  refine (HGI.out w6).mono ?_
  rintro e w7 ⟨rfl, hb7⟩
  have hB7 := hB6.trans (hb7.mono hB6.size)
  clear hB6 hb7
  go_wp2_with fail
  refine (HGS.out w7).mono ?_
  rintro e w8 ⟨rfl, hb8⟩
  have HB8 := Lib.hid (hB7.trans (hb8.mono hB7.size))
  clear hB7 hb8 HGS
  by_cases h20 : 20000 < s.size
  focus
    have h20I : (20000 : Int) < (s.size : Int) := by omega
    have h := HEMP.out h20
    subst h
    clear HEMP HLB HBACK HGI HGAIN
    go_wp2
    go_ret
    exact ⟨by first | rfl | simp, HB8.out⟩
  have h20I : ¬ (20000 : Int) < (s.size : Int) := by omega
  have hs20 : s.size ≤ 20000 := by omega
  have hlb := HLB.out
  rw [HBACK.out hs20] at hlb
  have HLB2 : Hid (∀ W : World, Calls Try.prog 40 #[.string t] W fun e w' => e = .returned (.tuple #[.string s, .bool true]) ∧ Below W.heap.size W w') := hlb
  have HG2 := Lib.hid (HGAIN.out hs20)
  have HON : Hid (∀ k, k < s.size → Sq.ones (byts s) (k + 1) = Sq.ones (byts s) k + if (byts s).getD k 0 = 1 then 1 else 0) := fun k _ => Sq.ones_succ _ _
  have HOL : Hid (∀ k, Sq.ones (byts s) k ≤ k) := Sq.ones_le _
  have HXS := Lib.hid (fun k hk => str_at s k hk)
  clear HEMP HLB HBACK HGAIN hlb hs
  go_wp2
  go_loop [10, 11] (fun o i => ∃ k m : Nat, i = .int .i64 k ∧ o = .int .i64 m ∧ k ≤ s.size ∧ m ≤ k ∧ Hid (m = Sq.ones (byts s) k)) (fun _ i => s.size - (intOf i).toNat)
  case atStart => exact ⟨0, 0, rfl, rfl, Nat.zero_le _, Nat.le_refl _, rfl⟩
  case round =>
    obtain ⟨k, m, rfl, rfl, hk, hmk, hm⟩ := hrel
    by_cases hlt : k < s.size
    focus
      have hx := HXS.out k hlt
      have ho := HON.out k hlt
      rw [← hm.out] at ho
      obtain ⟨z, hz⟩ : ∃ z, z = (byts s).getD k 0 := ⟨_, rfl⟩
      rw [← hz] at hx ho
      clear hz
      by_cases h1 : z = 1
      focus
        subst h1
        rw [if_pos rfl] at ho
        have HO := Lib.hid ho.symm
        clear ho
        go_wp2
        go_round
        case rel => exact ⟨k + 1, m + 1, by go_num, by go_num, by omega, by omega, HO⟩
        case measure => simp [intOf]; omega
      rw [if_neg h1, Nat.add_zero] at ho
      have HO := Lib.hid ho.symm
      have h1D : (z == 1) = false := by simp [h1]
      clear ho
      go_wp2
      go_round
      case rel => exact ⟨k + 1, m, by go_num, rfl, by omega, by omega, HO⟩
      case measure => simp [intOf]; omega
    obtain rfl : k = s.size := by omega
    have hgm : -(m : Int) ≤ g := by have := HG2.out; rw [← hm.out] at this; exact this
    have hwm : wrap64 (-(m : Int)) = -(m : Int) := IntWalk.wrap64_in _ ⟨by omega, by omega⟩
    have hgN : ¬ g < -(m : Int) := by omega
    have hadd : ∀ W : World, (Op.stringOp .add s s).run Try.prog W = .ok (.string (s ++ s)) W := fun W => run_string_add_sum W _ _ (by omega)
    have hss : (s ++ s).size = s.size + s.size := ByteArray.size_append
    have H2 := Lib.hid (fun W => implSqueezed_any (s ++ s) W (by omega))
    have HL2 := Lib.hid (fun W => implLoosed_any (sqT (s ++ s)) W (by have := sqT_size (s ++ s); omega))
    have HB2 : Hid ((s ++ s).size ≤ 20000 → loT (sqT (s ++ s)) = some (s ++ s)) := lo_back
    obtain ⟨y, c, hyc, HYC⟩ : ∃ y c, loV (loT (sqT (s ++ s))) = .tuple #[.string y, .bool c] ∧ Hid ((s ++ s).size ≤ 20000 → c = true ∧ y = s ++ s) := by
      by_cases h : (s ++ s).size ≤ 20000
      · rw [HB2.out h]
        exact ⟨_, _, rfl, fun _ => ⟨rfl, rfl⟩⟩
      · exact ⟨_, _, rfl, fun k => absurd k h⟩
    rw [hyc] at HL2
    generalize sqT (s ++ s) = t2 at H2 HL2
    clear hyc HB2 hm HG2 HON HOL HXS hmk
    go_wp2_with fail
    refine (HLB2.out w8).mono ?_
    rintro e w9 ⟨rfl, hb9⟩
    have hB9 := HB8.out.trans (hb9.mono HB8.out.size)
    clear hb9 HLB2
    go_wp2_with fail
    refine (H2.out w9).mono ?_
    rintro e w10 ⟨rfl, hb10⟩
    have hB10 := hB9.trans (hb10.mono hB9.size)
    clear hb10 hB9 H2
    go_wp2_with fail
    refine (HL2.out w10).mono ?_
    rintro e w11 ⟨rfl, hb11⟩
    have hB11 := hB10.trans (hb11.mono hB10.size)
    clear hb11 hB10 HL2
    go_wp2_with fail
    refine (HGI.out w11).mono ?_
    rintro e w12 ⟨rfl, hb12⟩
    have HB12 := Lib.hid (hB11.trans (hb12.mono hB11.size))
    clear hb12 hB11 HGI
    by_cases h9 : 9000 < s.size
    focus
      have h9I : (9000 : Int) < (s.size : Int) := by omega
      clear HYC
      cases b with
      | true =>
        clear HNO
        go_wp2
        go_ret
        exact ⟨by first | rfl | simp, HB12.out⟩
      | false =>
        have hu := HNO.out rfl
        subst hu
        clear HNO
        go_wp2
        go_ret
        exact ⟨by first | rfl | simp, HB12.out⟩
    have h9I : ¬ (9000 : Int) < (s.size : Int) := by omega
    obtain ⟨rfl, rfl⟩ := HYC.out (by omega)
    clear HYC
    cases b with
    | true =>
      clear HNO
      go_wp2
      go_ret
      exact ⟨by first | rfl | simp, HB12.out⟩
    | false =>
      have hu := HNO.out rfl
      subst hu
      clear HNO
      go_wp2
      go_ret
      exact ⟨by first | rfl | simp, HB12.out⟩

set_option maxRecDepth 100000 in
theorem lifted (os : Os) (started : os.Started) (H : Type) (enc : TypeId × Value → H) :
    ReturnsInHanded {} Try.checked os 6 .any (Rows.fnSqueezedSpec.pre6 enc Try.prog Try.f6 Rows.fnSqueezedRow.domain false) (Rows.fnSqueezedSpec.post enc Try.prog Try.f6 false true false false) := by
  refine returnsInHanded_of_change (C := Try.checked) own started (by kernel_rfl) Try.func6
    (ChangeSpec.witness6 (enc := enc) (C := Try.checked) false ⟨#[], #[.slice none 0 0], []⟩ 8 (by kernel_rfl) (by kernel_rfl) (by kernel_rfl) (by kernel_rfl)) ?_
  intro W base args ds gs before hval0 hW hcnd _
  have hval : ∀ (j : Nat) t v, Try.f6.params[j]? = some t → args[j]? = some v → Value.okWide Try.prog W .any base t v := hval0
  have hW' := hW
  obtain ⟨p, q, hA0, hV, rfl, hfz, hnd⟩ := hW
  have hA : DataW.TrodAll enc Try.prog W 0 (fun _ => true) true Try.f6.params.toList args.toList ds p := hA0
  rw [Try.params6] at hA hval
  obtain ⟨v0, vs0, d0, ds0, p0, q0, hargs0, rfl, rfl, h0, r0⟩ := trodAll_cons hA
  obtain ⟨rfl, rfl, rfl⟩ := trodAll_nil r0
  obtain rfl : args = #[v0] := by cases args; simp_all
  obtain ⟨rfl, rfl⟩ := trodVars_none hV
  obtain ⟨a0, len0, cap0, rfl⟩ := okWide_slice Try.underlying22 (hval 0 22 v0 rfl rfl)
  have k0 := h0
  have lt0 : ∀ x ∈ p0, x.block < W.heap.size := by obtain ⟨m, hm⟩ := k0; exact DataW.trod_lt m _ _ _ hm
  obtain ⟨zs0, hr0, hs0⟩ : ∃ zs : List Int, Rd W (.slice a0 len0 cap0) (zs.map (Value.int .u8)) ∧ ((∀ n ∈ zs, (Lit.int .u8 n).wf = true) ∧ zs.length ≤ 9223372036854775807) := by
    obtain ⟨fuel, hf⟩ := h0
    rcases open_ints Try.underlying22 Try.underlying5 (by kernel_rfl) hf with ⟨hcs, _⟩ | ⟨x, l, c, zs, hcs, _, hl, hm, hz, _, hcell, hwz⟩
    · simp [Value.cells] at hcs
      obtain ⟨rfl, rfl, rfl⟩ := hcs
      exact ⟨[], ⟨none, 0, rfl, Nat.le_refl _, fun h => absurd rfl h⟩, (fun x hx => absurd hx List.not_mem_nil), Nat.zero_le _⟩
    · simp [Value.cells] at hcs
      obtain ⟨rfl, rfl, rfl⟩ := hcs
      exact arg_ints .u8 hl hm (by simpa using hz) hcell hwz
  clear hA0 hval0
  refine (walk _ zs0 W hr0 (wf_bytes hs0.1) hs0.2).mono fun e W' ⟨he, bel⟩ => ?_
  subst he
  exact ⟨_, rfl, _, _, _, [], _, [], hW', trodAll_mk1 (shut_bool Try.underlying4 _), (trodAll_cons_mk (Below.trod laidOut (by kernel_rfl) (of_decide_eq_true (by kernel_rfl)) k0 bel lt0) trodAll_mk0), rfl, bel.frame _, fun h => by cases h⟩

theorem over : Rows.fnSqueezedRow.holds Try.pinned (OpenSpec.ofChange Rows.fnSqueezedSpec) :=
  OpenClaim.holds_of_wide 6 Try.f6 rfl rfl rfl rfl rfl rfl rfl ⟨rfl, rfl, rfl, rfl, rfl⟩ rfl rfl rfl rfl rfl (by kernel_rfl) Try.func6 (by kernel_rfl)
    (of_decide_eq_true (by kernel_rfl)) (by unfold Func.isWrapper; first | (rw [if_pos (by decide +kernel)]; kernel_rfl) | (rw [if_neg (by decide +kernel)]; exact ⟨rfl, rfl⟩))
    (fun os started H enc _ => lifted os started H enc)

theorem proved : Rows.FnSqueezedSaid := over
end Go.Proofs.Ytgcpdifggjkdhab.fnSqueezed
