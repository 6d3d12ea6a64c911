/- FnChunks: chunks glued are the text, none but the last is too short, none too long, and each but the last ends where it may. For every code, without a condition. -/
import Derived.Test.YtndecefcnalgdaaDrawsE
import Derived.Test.YtndecefcnalgdaaChunkMath
import Derived.Test.YtndecefcnalgdaaLikeI
import Derived.Test.YtndecefcnalgdaaLikeT
import Derived.Test.YtndecefcnalgdaaArgs
namespace Go.Proofs.Ytndecefcnalgdaa.fnChunks
open Go.ChangeShapes Go.WideShapes Go.ChangeAt Go.RowKit
set_option linter.unusedVariables false

set_option maxRecDepth 100000 in
theorem rises_any (va : Value) (l : List Int) (w : World) (ha : Rd w va (cellsInt64S l)) (hl : l.length ≤ 1099511627776) :
    Calls Try.prog 62 #[va] w fun e w' => e = .returned (.bool (risesB l)) ∧ Below w.heap.size w w' := by
  have hla : (cellsInt64S l).length = l.length := by simp
  obtain ⟨ao, cap, rfl, hcap, hx⟩ := ha
  rw [hla] at hcap hx ⊢
  have HX : Hid (0 < l.length → ∃ b off, ao = some ⟨b, off, none⟩ ∧ ∀ j, j < l.length → w.cell? ⟨b, off + j, none⟩ = some (.int .i64 (l.getD j 0))) := fun hp => by
    obtain ⟨b, off, h1, h2, h3⟩ := hx (by intro h; rw [h] at hla; simp at hla; omega)
    exact ⟨b, off, h1, fun j hj => (h3 j hj).trans (ints_get _ l j hj)⟩
  have HNO : Hid (∀ i, i < l.length → 0 < i → ¬ l.getD (i - 1) 0 < l.getD i 0 → risesB l = false) := fun i a b c => risesB_no a b c
  have HYES : Hid ((∀ i, i < l.length → 0 < i → l.getD (i - 1) 0 < l.getD i 0) → risesB l = true) := fun h => decide_eq_true h
  clear hx hla
  generalize risesB l = c at HNO HYES ⊢
  obtain ⟨n, hn⟩ : ∃ n, n = l.length := ⟨_, rfl⟩
  rw [← hn] at hcap HX HNO HYES hl ⊢
  clear hn
  go_enter Try.func62, Try.ntmps62
  go_wp2
  go_loopw [3] (fun i wr => ∃ k d : Nat, i = .int .i64 ((k : Int) + 1) ∧ (k ≤ n) ∧ wr = w.drewN d ∧ Hid (∀ m, m ≤ k → m < n → 0 < m → l.getD (m - 1) 0 < l.getD m 0)) (fun i _ => n + 1 - (intOf i).toNat)
  case atStart => exact ⟨0, 0, rfl, Nat.zero_le _, rfl, fun m h1 h2 h3 => by omega⟩
  case round =>
    obtain ⟨k, d, rfl, hk, rfl, h1⟩ := hrel
    by_cases hlt : k + 1 < n
    focus
      obtain ⟨b, off, rfl, hc⟩ := HX.out (by omega)
      have hc1 := hc (k + 1) hlt
      have hc0 := hc k (by omega)
      obtain ⟨x, hxx⟩ : ∃ x, x = l.getD k 0 := ⟨_, rfl⟩
      obtain ⟨y, hyy⟩ : ∃ y, y = l.getD (k + 1) 0 := ⟨_, rfl⟩
      have HXX : Hid (x = l.getD k 0) := hxx
      have HYY : Hid (y = l.getD (k + 1) 0) := hyy
      rw [← hxx] at hc0
      rw [← hyy] at hc1
      have hkn : k < n := by omega
      clear hxx hyy hc HX
      by_cases hle : y ≤ x
      · have hcf : Hid (c = false) := HNO.out (k + 1) hlt (by omega) (by rw [Nat.add_sub_cancel, ← HXX.out, ← HYY.out]; omega)
        clear HNO HYES
        go_wp2
        go_quiet (fail)
        go_wp2
        go_ret
        exact ⟨by rw [hcf.out]; rfl, below_drewN (below_drewN (Below.refl _ _) _) _⟩
      · go_wp2
        go_quiet (fail)
        go_wp2
        go_roundw
        case rel => exact ⟨k + 1, _, by go_num, by omega, rfl, fun m hm h2 h3 => by
          rcases Nat.lt_or_ge k m with h | h
          · obtain rfl : m = k + 1 := by omega
            rw [Nat.add_sub_cancel, ← HXX.out, ← HYY.out]; omega
          · exact h1.out m h h2 h3⟩
        case measure => simp [intOf]; omega
    have hct : Hid (c = true) := HYES.out fun i a b => h1.out i (by omega) a b
    have hlt2 : ¬ ((k : Int) + 1 < (n : Int)) := by omega
    clear HX HNO HYES h1
    go_wp2
    go_ret
    exact ⟨by rw [hct.out]; rfl, below_drewN (Below.refl _ _) _⟩

/-- what the first great test of the law holds on to: the rule's cells -/
def RC (rb : Nat) (W P L M : Int) (w : World) : Prop := w.cell? ⟨rb, 0, none⟩ = some (.int .i64 W) ∧ w.cell? ⟨rb, 1, none⟩ = some (.int .i64 P) ∧ w.cell? ⟨rb, 2, none⟩ = some (.int .i64 L) ∧ w.cell? ⟨rb, 3, none⟩ = some (.int .i64 M)

set_option maxHeartbeats 8000000 in
set_option maxRecDepth 100000 in
theorem walk (va : Value) (bs : List Int) (w : World) (ha : Rd w va (cellsByteS bs)) (hz : Bytes bs) (hlen : bs.length ≤ 9223372036854775807) :
    Calls Try.prog 7 #[va] w fun e w' => e = .returned (.bool true) ∧ Below w.heap.size w w' := by
  by_cases hbig : 4096 < (bs.length : Int)
  · obtain ⟨ao, cap, rfl, _, _⟩ := ha
    have hla : (cellsByteS bs).length = bs.length := by simp
    rw [hla]
    go_enter Try.func7, Try.ntmps7
    go_wp2
    go_ret
    exact ⟨rfl, Below.refl _ _⟩
  · have hl : bs.length ≤ 4096 := by omega
    have hbg : Calls Try.prog 8 #[va] w fun e w' => e = .returned (.bool false) ∧ w' = w := by
      obtain ⟨ao, cap, rfl, _, _⟩ := ha
      have hla : (cellsByteS bs).length = bs.length := by simp
      rw [hla]
      go_enter Try.func8, Try.ntmps8
      go_wp2
      go_ret
      exact ⟨by simp, rfl⟩
    go_enter Try.func7, Try.ntmps7
    go_wp2_with fail
    refine hbg.mono ?_
    rintro e w' ⟨rfl, hw'⟩
    replace hw' := hw'.symm
    subst hw'
    go_wp2_with fail
    refine (drawChunks_any va bs w ha hl hz).mono ?_
    rintro e w1 ⟨s, W, P, L, M, rfl, hs60, hb1⟩
    have hx2 := heap_alloc_new w1 (.cells #[.int .i64 W, .int .i64 P, .int .i64 L, .int .i64 M] 56)
    have hB2 := hb1.alloc hb1.size (.cells #[.int .i64 W, .int .i64 P, .int .i64 L, .int .i64 M] 56)
    have hs2 := World.size_alloc w1 (.cells #[.int .i64 W, .int .i64 P, .int .i64 L, .int .i64 M] 56)
    have ha2 := rd_below' ha hB2 (Nat.le_refl _)
    clear ha hbg hbig hlen hb1
    have HCH := fun w => implChunks_any s W P L M w (by omega)
    have HCS := fun w => specChunks_any s W P L M w (by omega)
    have HCU := fun w => implCuts_any s W P L M w (by omega)
    have HCV := fun w => specCuts_any s W P L M w (by omega)
    have HNI := fun w => implNext_any s W P L M w (by omega)
    have HNS := fun w => specNext_any s W P L M w (by omega)
    have hln : (chunksT s W P L M).length ≤ 20000 := by
      unfold chunksT
      split
      · rename_i h
        have h1 := cutsT_max s W P L M
        unfold cutsT at h1
        rw [if_pos h, cutsI_len] at h1
        rw [chunksI_len]
        exact h1
      · simp
    have hcn := cutsT_max s W P L M
    have hne1 : (nextT s W P L M != nextT s W P L M) = false := by simp
    have HOK : Hid (ruleB W P L M = false → chunksT s W P L M = []) := fun h => by unfold chunksT; rw [h, if_neg (fun h => Bool.false_ne_true h.1)]
    have HYES : Hid (∀ (W' L' M' : Nat), W = W' → L = L' → M = M' → okRule W' P L' M' → chunksT s W P L M = chunksI s W' P L' M' ∧ cutsT s W P L M = cutsI s W' P L' M') := fun W' L' M' h1 h2 h3 h4 => by
      subst h1 h2 h3
      exact ⟨chunksT_ok s h4 (by omega), cutsT_ok s h4 (by omega)⟩
    generalize chunksT s W P L M = CH at HCH HCS hln HOK HYES
    generalize cutsT s W P L M = CU at HCU HCV hcn HYES
    generalize nextT s W P L M = NX at HNI HNS hne1
    go_wp2_with fail
    refine (HCH _).mono ?_
    rintro e w3 ⟨vl, rfl, ho3, hb3⟩
    have hx3 := (hb3.block w1.heap.size (by omega)).trans hx2
    have hB3 := hB2.trans (hb3.mono hB2.size)
    have ha3 := rd_below ha2 hb3
    have hs3 := hb3.size
    have hrl3 := rd_owns ho3
    rw [hs2] at hs3
    clear hx2 hB2 hb3 hs2 ha2 ho3 HCH
    obtain ⟨d0, d1, d2, d3⟩ := rule_cells rfl hx3
    go_wp2_with fail
    refine (HCU _).mono ?_
    rintro e w4 ⟨vc, rfl, ho4, hb4⟩
    have hx4 := (hb4.block w1.heap.size (by omega)).trans hx3
    have hB4 := hB3.trans (hb4.mono hB3.size)
    have ha4 := rd_below ha3 hb4
    have hs4 := hb4.size
    have hrl4 := rd_below hrl3 hb4
    have hrc4 := rd_owns ho4
    clear hx3 hB3 hb4 ha3 ho4 hrl3 HCU d0 d1 d2 d3
    go_wp2_with fail
    refine (drawGlued_any va bs w4 ha4 hl hz).mono ?_
    rintro e w5 ⟨vg, G, rfl, hgl, hgs, hrg5, hb5⟩
    have hx5 := (hb5.block w1.heap.size (by omega)).trans hx4
    have hB5 := hB4.trans (hb5.mono hB4.size)
    have hs5 := hb5.size
    have HL5 : Hid (Rd w5 vl (cellsS CH)) := rd_below hrl4 hb5
    have HC5 : Hid (Rd w5 vc (cellsInt64S CU)) := rd_below hrc4 hb5
    have HG5 : Hid (Rd w5 vg (cellsS G)) := hrg5
    have HGS : Hid (∀ s ∈ G, s.size ≤ 1099511627776) := fun s hs => by have := hgs s hs; omega
    clear hx4 hB4 hb5 ha4 hrl4 hrc4 hrg5 hgs hz hl
    have HX5 : Hid (RuleAt w5 w1.heap.size W P L M) := hx5
    have HRC : Hid (∀ w', Below w5.heap.size w5 w' → w'.cell? ⟨w1.heap.size, 0, none⟩ = some (.int .i64 W) ∧ w'.cell? ⟨w1.heap.size, 1, none⟩ = some (.int .i64 P) ∧ w'.cell? ⟨w1.heap.size, 2, none⟩ = some (.int .i64 L) ∧ w'.cell? ⟨w1.heap.size, 3, none⟩ = some (.int .i64 M)) := fun w' hb => rule_cells (hb.block w1.heap.size (by omega)) HX5.out
    clear hx5
    obtain ⟨t, ht⟩ : ∃ t, t = gluedB G := ⟨_, rfl⟩
    have HGT : Hid (gluedB G = t) := ht.symm
    have hne2 : (ruleB W P L M != ruleB W P L M) = false := by simp
    obtain ⟨rB, hrb⟩ : ∃ rB, rB = ruleB W P L M := ⟨_, rfl⟩
    have HRB : Hid (ruleB W P L M = rB) := hrb.symm
    rw [← hrb] at hne2 HOK
    clear ht hrb
    have HB0 : Hid (Below w5.heap.size w5 w5.drew) := (Below.refl _ _).drew
    have k0 := HRC.out _ HB0.out
    go_wp2
    go_region_held (fun w' : World => w'.cell? ⟨w1.heap.size, 0, none⟩ = some (.int .i64 W) ∧ w'.cell? ⟨w1.heap.size, 1, none⟩ = some (.int .i64 P) ∧ w'.cell? ⟨w1.heap.size, 2, none⟩ = some (.int .i64 L) ∧ w'.cell? ⟨w1.heap.size, 3, none⟩ = some (.int .i64 M))
      (first | exact k0 | exact k1 | exact k2 | exact k3 | exact k4 | exact k5 | exact k6 | exact k7 | exact k8 | exact k9 | exact k10)
      (first
      | (go_at_call 54; refine (HCS _).mono ?_; rintro e x1 ⟨u1, rfl, hu1, hb1⟩; have HB1 : Hid (Below w5.heap.size w5 x1) := HB0.out.trans (hb1.mono HB0.out.size); have k1 := HRC.out _ HB1.out; have HU1 : Hid (Rd x1 u1 (cellsS CH)) := rd_owns hu1; clear hu1 hb1)
      | (go_at_call 28; refine (likeTexts_same vl u1 CH x1 (rd_below HL5.out HB1.out) HU1.out (by omega)).mono ?_; rintro e x2 ⟨rfl, hb2⟩; have HB2 : Hid (Below w5.heap.size w5 x2) := HB1.out.trans (hb2.mono HB1.out.size); have k2 := HRC.out _ HB2.out; clear hb2)
      | (go_at_call 55; refine (HCV _).mono ?_; rintro e x3 ⟨u3, rfl, hu3, hb3⟩; have HB3 : Hid (Below w5.heap.size w5 x3) := HB2.out.trans (hb3.mono HB2.out.size); have k3 := HRC.out _ HB3.out; have HU3 : Hid (Rd x3 u3 (cellsInt64S CU)) := rd_owns hu3; clear hu3 hb3)
      | (go_at_call 21; refine (likeInts_any vc u3 CU CU x3 (rd_below HC5.out HB3.out) HU3.out (by omega) (by omega)).mono ?_; rintro e x4 ⟨rfl, hb4⟩; rw [decide_eq_true rfl]; have HB4 : Hid (Below w5.heap.size w5 x4) := HB3.out.trans (hb4.mono HB3.out.size); have k4 := HRC.out _ HB4.out; clear hb4)
      | (go_at_call 56; refine (HNI _).mono ?_; rintro e x5 ⟨rfl, hb5⟩; have HB5 : Hid (Below w5.heap.size w5 x5) := HB4.out.trans (hb5.mono HB4.out.size); have k5 := HRC.out _ HB5.out; clear hb5)
      | (go_at_call 57; refine (HNS _).mono ?_; rintro e x6 ⟨rfl, hb6⟩; have HB6 : Hid (Below w5.heap.size w5 x6) := HB5.out.trans (hb6.mono HB5.out.size); have k6 := HRC.out _ HB6.out; clear hb6)
      | (go_at_call 58; refine (implGlued_any vg G _ (rd_below HG5.out HB6.out) (by omega) HGS.out).mono ?_; rintro e x7 ⟨rfl, hb7⟩; rw [HGT.out]; have HB7 : Hid (Below w5.heap.size w5 x7) := HB6.out.trans (hb7.mono HB6.out.size); have k7 := HRC.out _ HB7.out; clear hb7)
      | (go_at_call 59; refine (specGlued_any vg G _ (rd_below HG5.out HB7.out) (by omega) HGS.out).mono ?_; rintro e x8 ⟨rfl, hb8⟩; rw [HGT.out]; have HB8 : Hid (Below w5.heap.size w5 x8) := HB7.out.trans (hb8.mono HB7.out.size); have k8 := HRC.out _ HB8.out; clear hb8)
      | (go_at_call 60; refine (implRuleOk_any W P L M _).mono ?_; rintro e x9 ⟨rfl, hb9⟩; rw [HRB.out]; have HB9 : Hid (Below w5.heap.size w5 x9) := HB8.out.trans (hb9.mono HB8.out.size); have k9 := HRC.out _ HB9.out; clear hb9)
      | (go_at_call 61; refine (specRuleOk_any W P L M _).mono ?_; rintro e x10 ⟨rfl, hb10⟩; rw [HRB.out]; have HB10 : Hid (Below w5.heap.size w5 x10) := HB9.out.trans (hb10.mono HB9.out.size); have k10 := HRC.out _ HB10.out; clear hb10))
    rw [Exit.then_normal]
    obtain ⟨d0, d1, d2, d3⟩ := k10
    have hB10 : Below w.heap.size w x10 := hB5.trans (HB10.out.mono hB5.size)
    clear k0 k1 k2 k3 k4 k5 k6 k7 k8 k9 HB0 HB1 HB2 HB3 HB4 HB5 HB6 HB7 HB8 HB9 HU1 HU3 HG5 HGS HGT HCS HCV HNI HNS hne1 hne2 HX5
    go_wp2_with fail
    refine (specRuleOk_any W P L M _).mono ?_
    rintro e w6 ⟨rfl, hb6⟩
    rw [HRB.out]
    have hb7 : Below w5.heap.size w5 w6 := HB10.out.trans (hb6.mono HB10.out.size)
    have hB6 : Below w.heap.size w w6 := hB5.trans (hb7.mono hB5.size)
    have HL6 : Hid (Rd w6 vl (cellsS CH)) := rd_below HL5.out hb7
    have HC6 : Hid (Rd w6 vc (cellsInt64S CU)) := rd_below HC5.out hb7
    have hk6 := HRC.out w6 hb7
    clear hb6 hb7 d0 d1 d2 d3 hB10 HB10 HL5 HC5 HRC
    cases rB
    focus
      have hnil := HOK.out rfl
      subst hnil
      obtain ⟨ao, cap, rfl, _, _⟩ := HL6.out
      have hl0 : (cellsS ([] : List ByteArray)).length = 0 := rfl
      rw [hl0]
      clear HC6 HL6 hk6 HYES HRB HOK
      go_wp2
      go_ret
      exact ⟨by simp, hB6⟩
    obtain ⟨W, L, M, rfl, rfl, rfl, hok⟩ := ruleB_ok HRB.out
    obtain ⟨e1, e2⟩ := HYES.out W L M rfl rfl rfl hok
    have hokk := hok
    obtain ⟨⟨hW1, hW2⟩, ⟨hP1, hP2⟩, ⟨hL1, hL2⟩, hM1, hM2⟩ := hokk
    have HGLU : Hid (gluedB CH = s) := by rw [e1]; exact glued_chunks s hok (by omega)
    have HRIS : Hid (risesB CU = true) := by rw [e2]; exact okNums_rises (cutsI_ok s hok (by omega))
    have HAT := fun k hk => chunk_at s hok k hk
    have hch := chunksI_len s W P L M
    have hcu := cutsI_len s W P L M
    have HSS : Hid (∀ x ∈ CH, x.size ≤ 1099511627776) := fun x hx => by
      obtain ⟨i, hi, rfl⟩ := List.getElem_of_mem hx
      rw [e1, hch] at hi
      obtain ⟨a, n, _, _, _, h4, _⟩ := HAT i hi
      rw [← e1] at h4
      have h5 : CH.getD i ByteArray.empty = CH[i] := by simp [List.getD, List.getElem?_eq_getElem (by omega : i < CH.length)]
      rw [h5] at h4
      omega
    rw [← e1] at hch
    rw [← e2] at hcu
    simp only [← e1, ← e2] at HAT
    generalize cutsN s W P L M = C at HAT hch hcu
    have HATH : Hid (∀ k, k < C.length → ∃ a n : Nat, a = (0 :: C).getD k 0 ∧ a + n = (0 :: C).getD (k + 1) 0 ∧ CU.getD k 0 = ((a + n : Nat) : Int) ∧ (CH.getD k ByteArray.empty).size = n ∧ a + n ≤ s.size ∧ 1 ≤ n ∧ n ≤ M ∧
      (k + 1 < C.length → L ≤ n) ∧ (k + 1 < C.length → n < M → roll ((CH.getD k ByteArray.empty).extract (n - W) n) % P = 0)) := HAT
    clear HAT HYES HRB HOK hok e1 e2
    obtain ⟨k0, k1, k2, k3⟩ := hk6
    obtain ⟨al, cl, rfl, _, hll⟩ := id HL6.out
    obtain ⟨ac, cc, rfl, _, hlc⟩ := id HC6.out
    have hx1 : (cellsS CH).length = CH.length := by simp
    have hx2 : (cellsInt64S CU).length = CU.length := by simp
    rw [hx1] at hll HL6 ⊢
    rw [hx2] at hlc HC6 ⊢
    have HLC : Hid (∀ j, j < CH.length → ∃ b off, al = some ⟨b, off, none⟩ ∧ w6.cell? ⟨b, off + j, none⟩ = some (.string (CH.getD j ByteArray.empty))) := fun j hj => by
      obtain ⟨b, off, h1, h2, h3⟩ := hll (by intro h; rw [h] at hx1; simp at hx1; omega)
      exact ⟨b, off, h1, (h3 j hj).trans (strs_get CH j hj)⟩
    have HCC : Hid (∀ j, j < CU.length → ∃ b off, ac = some ⟨b, off, none⟩ ∧ w6.cell? ⟨b, off + j, none⟩ = some (.int .i64 (CU.getD j 0))) := fun j hj => by
      obtain ⟨b, off, h1, h2, h3⟩ := hlc (by intro h; rw [h] at hx2; simp at hx2; omega)
      exact ⟨b, off, h1, (h3 j hj).trans (ints_get _ CU j hj)⟩
    clear hll hlc hx1 hx2
    obtain ⟨N, hN⟩ : ∃ N, N = C.length := ⟨_, rfl⟩
    have HNL : Hid (CH.length = N ∧ CU.length = N) := ⟨hch.trans hN.symm, hcu.trans hN.symm⟩
    rw [hch, ← hN] at HLC HL6 hln ⊢
    rw [hcu, ← hN] at HCC HC6 hcn ⊢
    rw [← hN] at HATH
    clear hch hcu hN
    go_wp2
    go_loopw [8, 9] (fun q i wr => ∃ k a d : Nat, i = .int .i64 k ∧ q = .int .i64 a ∧ k ≤ N ∧ wr = w6.drewN d ∧ Hid (a = (0 :: C).getD k 0) ∧ a ≤ s.size) (fun _ i _ => N - (intOf i).toNat)
    case atStart => exact ⟨0, 0, 0, rfl, rfl, Nat.zero_le _, rfl, rfl, by omega⟩
    case round =>
      obtain ⟨k, a, d, rfl, rfl, hk, rfl, ha, has⟩ := hrel
      by_cases hlt : k < N
      focus
        obtain ⟨a', n, ha', hn, hcu, hchs, hle, hn1, hnM, hLn, hPn⟩ := HATH.out k hlt
        obtain rfl : a = a' := ha.out.trans ha'.symm
        obtain ⟨b, off, rfl, hcl⟩ := HLC.out k hlt
        obtain ⟨b2, off2, rfl, hcc⟩ := HCC.out k hlt
        rw [hcu] at hcc
        have HN2 : Hid (a + n = (0 :: C).getD (k + 1) 0) := hn
        obtain ⟨x, hx⟩ : ∃ x, x = CH.getD k ByteArray.empty := ⟨_, rfl⟩
        rw [← hx] at hcl hchs hPn
        subst hchs
        rw [Int.natCast_add] at hcc
        have hne : (((a : Int) + (x.size : Int)) != ((a : Int) + (x.size : Int))) = false := by simp
        have hP0 : (P == 0) = false := by simp; omega
        clear hx ha ha' hn hcu HATH HLC HCC HL6 HC6 HSS HGLU HRIS HNL hB6
        by_cases hk1 : k + 1 < N
        focus
          have hLL := hLn hk1
          by_cases hxM : x.size < M
          focus
            have hz := hPn hk1 hxM
            have hri := roll_in (x.extract (x.size - W) x.size)
            have hsl : ∀ W' : World, (Instr.slice 9 (.string x) (some (.int .i64 ((x.size : Int) - (W : Int)))) none none).run Try.prog W' = .ok (.string (x.extract (x.size - W) x.size)) W' := fun W' => by
              rw [run_slice_string_l W' 9 x Try.underlying9 .i64 _ (by omega) (by omega), show ((x.size : Int) - (W : Int)).toNat = x.size - W by omega]
            have hts : (x.extract (x.size - W) x.size).size ≤ 9223372036854775807 := by rw [ByteArray.size_extract]; omega
            obtain ⟨y, hy⟩ : ∃ y, y = x.extract (x.size - W) x.size := ⟨_, rfl⟩
            rw [← hy] at hz hri hsl hts
            obtain ⟨z, hzz⟩ : ∃ z, z = roll y := ⟨_, rfl⟩
            have HZ : Hid (roll y = z) := hzz.symm
            rw [← hzz] at hz hri
            obtain ⟨hz0, hz1⟩ := hri
            clear hy hzz hLn hPn
            go_wp2
            go_quiet (first | (go_at_call 47; refine (specRoll_any y _ hts).mono ?_; rintro e w8 ⟨rfl, rfl⟩; rw [HZ.out]; exact ⟨rfl, ⟨_, rfl⟩⟩))
            go_wp2
            go_roundw
            case rel => exact ⟨k + 1, a + x.size, _, by go_num, by go_num, by omega, rfl, HN2, by omega⟩
            case measure => simp [intOf]; omega
          clear hLn hPn
          go_wp2
          go_quiet (fail)
          go_wp2
          go_roundw
          case rel => exact ⟨k + 1, a + x.size, _, by go_num, by go_num, by omega, rfl, HN2, by omega⟩
          case measure => simp [intOf]; omega
        clear hLn hPn
        have hkN : ¬ ((k : Int) + 1 < (N : Int)) := by omega
        go_wp2
        have hkD : decide ((k : Int) + 1 < (N : Int)) = false := by simp; omega
        go_quiet (fail)
        go_wp2
        go_roundw
        case rel => exact ⟨k + 1, a + x.size, _, by go_num, by go_num, by omega, rfl, HN2, by omega⟩
        case measure => simp [intOf]; omega
      have hB7 : Below w.heap.size w (w6.drewN d) := below_drewN hB6 _
      have HIG := implGlued_any (.slice al N cl) CH (w6.drewN d) (rd_below HL6.out (below_drewN (Below.refl _ _) _)) (by rw [HNL.out.1]; omega) HSS.out
      have HRI := fun u (h : Below (w6.drewN d).heap.size (w6.drewN d) u) => rises_any (.slice ac N cc) CU u (rd_below (rd_below HC6.out (below_drewN (Below.refl _ _) _)) h) (by rw [HNL.out.2]; omega)
      rw [HGLU.out] at HIG
      rw [HRIS.out] at HRI
      clear HATH HLC HCC HL6 HC6 HSS HGLU HRIS HNL hB6 ha
      generalize w6.drewN d = w7 at hB7 HIG HRI ⊢
      go_wp2_with fail
      refine HIG.mono ?_
      rintro e w8 ⟨rfl, hb8⟩
      go_wp2_with fail
      refine (HRI _ hb8).mono ?_
      rintro e w9 ⟨rfl, hb9⟩
      have hB9 := (hB7.trans (hb8.mono hB7.size)).trans (hb9.mono (hB7.trans (hb8.mono hB7.size)).size)
      clear HIG HRI hb8 hb9
      go_wp2
      go_ret
      exact ⟨by simp, hB9⟩

set_option maxRecDepth 100000 in
theorem lifted (os : Os) (started : os.Started) (H : Type) (enc : TypeId × Value → H) :
    ReturnsInHanded {} Try.checked os 7 .any (Rows.fnChunksSpec.pre6 enc Try.prog Try.f7 Rows.fnChunksRow.domain false) (Rows.fnChunksSpec.post enc Try.prog Try.f7 false true false false) := by
  refine returnsInHanded_of_change (C := Try.checked) own started (by kernel_rfl) Try.func7
    (ChangeSpec.witness6 (enc := enc) (C := Try.checked) false ⟨#[], #[.slice none 0 0], []⟩ 8 (by kernel_rfl) (by kernel_rfl) (by kernel_rfl) (by kernel_rfl)) ?_
  intro W base args ds gs before hval0 hW hcnd _
  have hval : ∀ (j : Nat) t v, Try.f7.params[j]? = some t → args[j]? = some v → Value.okWide Try.prog W .any base t v := hval0
  have hW' := hW
  obtain ⟨p, q, hA0, hV, rfl, hfz, hnd⟩ := hW
  have hA : DataW.TrodAll enc Try.prog W 0 (fun _ => true) true Try.f7.params.toList args.toList ds p := hA0
  rw [Try.params7] at hA hval
  obtain ⟨v0, vs0, d0, ds0, p0, q0, hargs0, rfl, rfl, h0, r0⟩ := trodAll_cons hA
  obtain ⟨rfl, rfl, rfl⟩ := trodAll_nil r0
  obtain rfl : args = #[v0] := by cases args; simp_all
  obtain ⟨rfl, rfl⟩ := trodVars_none hV
  obtain ⟨a0, len0, cap0, rfl⟩ := okWide_slice Try.underlying22 (hval 0 22 v0 rfl rfl)
  have k0 := h0
  have lt0 : ∀ x ∈ p0, x.block < W.heap.size := by obtain ⟨m, hm⟩ := k0; exact DataW.trod_lt m _ _ _ hm
  obtain ⟨zs0, hr0, hs0⟩ : ∃ zs : List Int, Rd W (.slice a0 len0 cap0) (zs.map (Value.int .u8)) ∧ ((∀ n ∈ zs, (Lit.int .u8 n).wf = true) ∧ zs.length ≤ 9223372036854775807) := by
    obtain ⟨fuel, hf⟩ := h0
    rcases open_ints Try.underlying22 Try.underlying5 (by kernel_rfl) hf with ⟨hcs, _⟩ | ⟨x, l, c, zs, hcs, _, hl, hm, hz, _, hcell, hwz⟩
    · simp [Value.cells] at hcs
      obtain ⟨rfl, rfl, rfl⟩ := hcs
      exact ⟨[], ⟨none, 0, rfl, Nat.le_refl _, fun h => absurd rfl h⟩, (fun x hx => absurd hx List.not_mem_nil), Nat.zero_le _⟩
    · simp [Value.cells] at hcs
      obtain ⟨rfl, rfl, rfl⟩ := hcs
      exact arg_ints .u8 hl hm (by simpa using hz) hcell hwz
  clear hA0 hval0
  refine (walk _ zs0 W hr0 (wf_bytes hs0.1) hs0.2).mono fun e W' ⟨he, bel⟩ => ?_
  subst he
  exact ⟨_, rfl, _, _, _, [], _, [], hW', trodAll_mk1 (shut_bool Try.underlying4 _), (trodAll_cons_mk (Below.trod laidOut (by kernel_rfl) (of_decide_eq_true (by kernel_rfl)) k0 bel lt0) trodAll_mk0), rfl, bel.frame _, fun h => by cases h⟩

theorem over : Rows.fnChunksRow.holds Try.pinned (OpenSpec.ofChange Rows.fnChunksSpec) :=
  OpenClaim.holds_of_wide 7 Try.f7 rfl rfl rfl rfl rfl rfl rfl ⟨rfl, rfl, rfl, rfl, rfl⟩ rfl rfl rfl rfl rfl (by kernel_rfl) Try.func7 (by kernel_rfl)
    (of_decide_eq_true (by kernel_rfl)) (by unfold Func.isWrapper; first | (rw [if_pos (by decide +kernel)]; kernel_rfl) | (rw [if_neg (by decide +kernel)]; exact ⟨rfl, rfl⟩))
    (fun os started H enc _ => lifted os started H enc)

theorem proved : Rows.FnChunksSaid := over
end Go.Proofs.Ytndecefcnalgdaa.fnChunks
