/- FnCounted: there are no more chunks than the least ones would be, and no less than the greatest. For every code, without a condition. -/
import Derived.Test.YtndecefcnalgdaeDrawsE
import Derived.Test.YtndecefcnalgdaeChunks
import Derived.Test.YtndecefcnalgdaeArgs
namespace Go.Proofs.Ytndecefcnalgdae.fnCounted
open Go.ChangeShapes Go.WideShapes Go.ChangeAt Go.RowKit
set_option linter.unusedVariables false

/-- what the law says of the chunks of a text -/
theorem counted (s : ByteArray) {W : Nat} {P : Int} {L M : Nat} (hr : okRule W P L M) (hs : s.size ≤ 60) :
    ((chunksI s W P L M).length : Int) ≤ (s.size : Int) / (L : Int) + 1 ∧ (s.size : Int) ≤ ((chunksI s W P L M).length : Int) * (M : Int) ∧ (0 < s.size ↔ 0 < (chunksI s W P L M).length) ∧ (chunksI s W P L M).length ≤ 60 ∧
      (0 < (chunksI s W P L M).length → ((chunksI s W P L M).getD 0 ByteArray.empty).size = nextL W P L M (byts s)) ∧ nextL W P L M (byts s) ≤ s.size := by
  have hO : Okn (nextL W P L M) := okn_next (by omega) hr.2.2.2.1
  have hl := byts_len s
  have hcl := chunksI_len s W P L M
  have hbt := cuts_between hO (byts s) L M (fun t => (nextL_le W P L M t).2) (fun t h => nextL_inner hr.2.2.2.1 h)
  have hen := cuts_end hO (byts s) 0 (Nat.zero_le _)
  have hnl := cuts_nil hO (byts s) 0
  have hct := cuts_count hO (byts s) 0 (Nat.zero_le _)
  have hle := (nextL_le W P L M (byts s)).1
  have hL0 : 0 < L := by omega
  rw [hl] at hen hnl hct hle
  rw [hcl]
  have hg0 : 0 < (cutsN s W P L M).length → (cutsN s W P L M).getD 0 0 = nextL W P L M (byts s) := fun h => by
    have := (cuts_get hO (byts s) 0 0 h).2
    simpa [cutsN] using this
  have h0 := piecesN_get s (cutsN s W P L M) (cutsN s W P L M).length 0
  have hlt := fun k h => (cuts_get hO (byts s) 0 k h).1
  rw [hl] at hlt
  unfold chunksI
  unfold cutsN at *
  generalize cutsAt (nextL W P L M) (byts s) 0 = C at *
  refine ⟨?_, ?_, ?_, by omega, fun h => ?_, hle⟩
  · rcases Nat.eq_zero_or_pos C.length with h | h
    · rw [h]
      have : 0 ≤ (s.size : Int) / (L : Int) := Int.ediv_nonneg (by omega) (by omega)
      omega
    · have h1 := (hbt (C.length - 1) (by omega)).2 (by omega)
      have h2 := hlt (C.length - 1) (by omega)
      have h3 : ((C.length - 1 : Nat) : Int) ≤ (s.size : Int) / (L : Int) := by
        rw [Int.le_ediv_iff_mul_le (by omega)]
        have : L * (C.length - 1) ≤ s.size := by omega
        have h4 : ((L * (C.length - 1) : Nat) : Int) ≤ (s.size : Int) := by omega
        rw [Int.natCast_mul] at h4
        rwa [Int.mul_comm]
      omega
  · have h1 := (hbt C.length (Nat.le_refl _)).1
    rw [hen] at h1
    have h4 : (s.size : Int) ≤ ((M * C.length : Nat) : Int) := by omega
    rwa [Int.natCast_mul, Int.mul_comm] at h4
  · omega
  · rw [h0 h, ByteArray.size_extract, hg0 h]
    simp
    omega

set_option maxHeartbeats 4000000 in
set_option maxRecDepth 100000 in
theorem walk (va : Value) (bs : List Int) (w : World) (ha : Rd w va (cellsByteS bs)) (hz : Bytes bs) (hlen : bs.length ≤ 9223372036854775807) :
    Calls Try.prog 3 #[va] w fun e w' => e = .returned (.bool true) ∧ Below w.heap.size w w' := by
  by_cases hbig : 4096 < (bs.length : Int)
  · obtain ⟨ao, cap, rfl, _, _⟩ := ha
    have hla : (cellsByteS bs).length = bs.length := by simp
    rw [hla]
    go_enter Try.func3, Try.ntmps3
    go_wp2
    go_ret
    exact ⟨rfl, Below.refl _ _⟩
  · have hl : bs.length ≤ 4096 := by omega
    have hbg : Calls Try.prog 4 #[va] w fun e w' => e = .returned (.bool false) ∧ w' = w := by
      obtain ⟨ao, cap, rfl, _, _⟩ := ha
      have hla : (cellsByteS bs).length = bs.length := by simp
      rw [hla]
      go_enter Try.func4, Try.ntmps4
      go_wp2
      go_ret
      exact ⟨by simp, rfl⟩
    go_enter Try.func3, Try.ntmps3
    go_wp2_with fail
    refine hbg.mono ?_
    rintro e w' ⟨rfl, hw'⟩
    replace hw' := hw'.symm
    subst hw'
    go_wp2_with fail
    refine (drawNext_any va bs w ha hl hz).mono ?_
    rintro e w1 ⟨s, W, P, L, M, rfl, hs60, hb1⟩
    have hx2 := heap_alloc_new w1 (.cells #[.int .i64 W, .int .i64 P, .int .i64 L, .int .i64 M] 25)
    have hB2 := hb1.alloc hb1.size (.cells #[.int .i64 W, .int .i64 P, .int .i64 L, .int .i64 M] 25)
    have hs2 := World.size_alloc w1 (.cells #[.int .i64 W, .int .i64 P, .int .i64 L, .int .i64 M] 25)
    clear ha hbg hbig hz hlen hl hb1
    have hne : (nextT s W P L M != nextT s W P L M) = false := by simp
    go_wp2_with fail
    refine (implNext_any s W P L M _ (by omega)).mono ?_
    rintro e w3 ⟨rfl, hb3⟩
    have hx3 := (hb3.block w1.heap.size (by omega)).trans hx2
    have hB3 := hB2.trans (hb3.mono hB2.size)
    have hs3 := hb3.size
    rw [hs2] at hs3
    obtain ⟨d0, d1, d2, d3⟩ := rule_cells rfl hx3
    clear hx2 hB2 hb3 hs2
    go_wp2_with fail
    refine (specNext_any s W P L M _ (by omega)).mono ?_
    rintro e w4 ⟨rfl, hb4⟩
    have hx4 := (hb4.block w1.heap.size (by omega)).trans hx3
    have hB4 := hB3.trans (hb4.mono hB3.size)
    have hs4 := hb4.size
    clear hx3 hB3 hb4 d0 d1 d2 d3
    obtain ⟨d0, d1, d2, d3⟩ := rule_cells rfl hx4
    go_wp2_with fail
    refine (specRuleOk_any W P L M _).mono ?_
    rintro e w5 ⟨rfl, hb5⟩
    have hx5 := (hb5.block w1.heap.size (by omega)).trans hx4
    have hB5 := hB4.trans (hb5.mono hB4.size)
    have hs5 := hb5.size
    clear hx4 hB4 hb5 d0 d1 d2 d3
    cases hrB : ruleB W P L M with
    | false =>
      have hn1 : nextT s W P L M = -1 := by unfold nextT; rw [hrB]; rfl
      rw [hn1]
      have hm1 : ((-1 : Int) == -1) = true := by simp
      clear hx5 hne hn1
      go_wp2
      go_ret
      exact ⟨rfl, hB5⟩
    | true =>
      obtain ⟨W, L, M, rfl, rfl, rfl, hok⟩ := ruleB_ok hrB
      obtain ⟨d0, d1, d2, d3⟩ := rule_cells rfl hx5
      have hcnt := counted s hok hs60
      have HT : Hid (nextT s W P L M = (nextL W P L M (byts s) : Int)) := nextT_ok s hok
      have HCH := fun w => implChunks_any s W P L M w (by omega)
      rw [chunksT_ok s hok (by omega)] at HCH
      rw [HT.out] at hne ⊢
      generalize nextL W P L M (byts s) = n at hcnt hne HT ⊢
      generalize chunksI s W P L M = CH at hcnt HCH
      obtain ⟨hc1, hc2, hc3, hc4, hc5, hc6⟩ := hcnt
      go_wp2_with fail
      refine (HCH _).mono ?_
      rintro e w6 ⟨v6, rfl, ho6, hb6⟩
      have hx6 := (hb6.block w1.heap.size (by omega)).trans hx5
      have hB6 := hB5.trans (hb6.mono hB5.size)
      clear hx5 hB5 hb6 d0 d1 d2 d3 HCH
      obtain ⟨d0, d1, d2, d3⟩ := rule_cells rfl hx6
      obtain ⟨⟨hW1, hW2⟩, ⟨hP1, hP2⟩, ⟨hL1, hL2⟩, hM1, hM2⟩ := hok
      have hL0 : ((L : Int) == 0) = false := beq_eq_false_iff_ne.2 (by omega)
      have hm0 : 0 ≤ (CH.length : Int) * (M : Int) := Int.mul_nonneg (by omega) (by omega)
      have hm1 : (CH.length : Int) * (M : Int) ≤ 60000 := by
        have := Int.mul_le_mul (show (CH.length : Int) ≤ 60 by omega) (show (M : Int) ≤ 1000 by omega) (by omega) (by omega)
        omega
      obtain ⟨dv, hdv⟩ : ∃ dv, dv = (s.size : Int) / (L : Int) := ⟨_, rfl⟩
      have hdv0 : 0 ≤ dv := by rw [hdv]; exact Int.ediv_nonneg (by omega) (by omega)
      have hdv1 : dv ≤ 60 := by
        rw [hdv]
        exact Int.le_trans (Int.ediv_le_self _ (by omega)) (by omega)
      have hdw : wrap64 ((s.size : Int) / (L : Int)) = dv := by
        rw [← hdv]
        have h := IntKind.wrap_i64 dv
        unfold wrap64
        omega
      rw [← hdv] at hc1
      clear hdv
      by_cases hk : 0 < CH.length
      · obtain ⟨g, cap, rfl, _⟩ := owns_head ho6 hk
        have hcell : w6.cell? ⟨g, 0, none⟩ = some (.string (CH.getD 0 ByteArray.empty)) := by
          rw [ho6.cellAt 0 (by omega)]
          exact strs_get CH 0 hk
        have hz0 := hc5 hk
        obtain ⟨x, hx⟩ : ∃ x, x = CH.getD 0 ByteArray.empty := ⟨_, rfl⟩
        rw [← hx] at hcell hz0
        have hall := hc3.2 hk
        obtain ⟨k, hkk⟩ : ∃ k, k = CH.length := ⟨_, rfl⟩
        rw [← hkk] at hc1 hc2 hc4 hm0 hm1 hk ⊢
        clear hx hkk hc3 hc5 ho6 hx6
        have hnx : (n : Int) ≤ (s.size : Int) := by omega
        have hLp : 1 ≤ L := by omega
        have hxn : (x.size : Int) = (n : Int) := by omega
        clear hrB hne HT d0 d1 hW1 hW2 hP1 hP2 hs3 hs4 hs5
        go_wp2
        all_goals
          go_ret
          exact ⟨by simp_all, hB6⟩
      · obtain ⟨ao, cap, rfl⟩ := owns_slice ho6
        have hk0 : CH.length = 0 := by omega
        have hall : s.size = 0 := by omega
        have hLp : 1 ≤ L := by omega
        rw [hk0] at hc1 hc2 hm0 hm1 ⊢
        clear hrB hne HT d0 d1 hW1 hW2 hP1 hP2 hs3 hs4 hs5 hk hc3 hc4 hc5 ho6 hx6
        have hc7 : (s.size : Int) = 0 := by omega
        go_wp2
        all_goals
          go_ret
          exact ⟨by simp_all, hB6⟩

set_option maxRecDepth 100000 in
theorem lifted (os : Os) (started : os.Started) (H : Type) (enc : TypeId × Value → H) :
    ReturnsInHanded {} Try.checked os 3 .any (Rows.fnCountedSpec.pre6 enc Try.prog Try.f3 Rows.fnCountedRow.domain false) (Rows.fnCountedSpec.post enc Try.prog Try.f3 false true false false) := by
  refine returnsInHanded_of_change (C := Try.checked) own started (by kernel_rfl) Try.func3
    (ChangeSpec.witness6 (enc := enc) (C := Try.checked) false ⟨#[], #[.slice none 0 0], []⟩ 8 (by kernel_rfl) (by kernel_rfl) (by kernel_rfl) (by kernel_rfl)) ?_
  intro W base args ds gs before hval0 hW hcnd _
  have hval : ∀ (j : Nat) t v, Try.f3.params[j]? = some t → args[j]? = some v → Value.okWide Try.prog W .any base t v := hval0
  have hW' := hW
  obtain ⟨p, q, hA0, hV, rfl, hfz, hnd⟩ := hW
  have hA : DataW.TrodAll enc Try.prog W 0 (fun _ => true) true Try.f3.params.toList args.toList ds p := hA0
  rw [Try.params3] at hA hval
  obtain ⟨v0, vs0, d0, ds0, p0, q0, hargs0, rfl, rfl, h0, r0⟩ := trodAll_cons hA
  obtain ⟨rfl, rfl, rfl⟩ := trodAll_nil r0
  obtain rfl : args = #[v0] := by cases args; simp_all
  obtain ⟨rfl, rfl⟩ := trodVars_none hV
  obtain ⟨a0, len0, cap0, rfl⟩ := okWide_slice Try.underlying22 (hval 0 22 v0 rfl rfl)
  have k0 := h0
  have lt0 : ∀ x ∈ p0, x.block < W.heap.size := by obtain ⟨m, hm⟩ := k0; exact DataW.trod_lt m _ _ _ hm
  obtain ⟨zs0, hr0, hs0⟩ : ∃ zs : List Int, Rd W (.slice a0 len0 cap0) (zs.map (Value.int .u8)) ∧ ((∀ n ∈ zs, (Lit.int .u8 n).wf = true) ∧ zs.length ≤ 9223372036854775807) := by
    obtain ⟨fuel, hf⟩ := h0
    rcases open_ints Try.underlying22 Try.underlying5 (by kernel_rfl) hf with ⟨hcs, _⟩ | ⟨x, l, c, zs, hcs, _, hl, hm, hz, _, hcell, hwz⟩
    · simp [Value.cells] at hcs
      obtain ⟨rfl, rfl, rfl⟩ := hcs
      exact ⟨[], ⟨none, 0, rfl, Nat.le_refl _, fun h => absurd rfl h⟩, (fun x hx => absurd hx List.not_mem_nil), Nat.zero_le _⟩
    · simp [Value.cells] at hcs
      obtain ⟨rfl, rfl, rfl⟩ := hcs
      exact arg_ints .u8 hl hm (by simpa using hz) hcell hwz
  clear hA0 hval0
  refine (walk _ zs0 W hr0 (wf_bytes hs0.1) hs0.2).mono fun e W' ⟨he, bel⟩ => ?_
  subst he
  exact ⟨_, rfl, _, _, _, [], _, [], hW', trodAll_mk1 (shut_bool Try.underlying4 _), (trodAll_cons_mk (Below.trod laidOut (by kernel_rfl) (of_decide_eq_true (by kernel_rfl)) k0 bel lt0) trodAll_mk0), rfl, bel.frame _, fun h => by cases h⟩

theorem over : Rows.fnCountedRow.holds Try.pinned (OpenSpec.ofChange Rows.fnCountedSpec) :=
  OpenClaim.holds_of_wide 3 Try.f3 rfl rfl rfl rfl rfl rfl rfl ⟨rfl, rfl, rfl, rfl, rfl⟩ rfl rfl rfl rfl rfl (by kernel_rfl) Try.func3 (by kernel_rfl)
    (of_decide_eq_true (by kernel_rfl)) (by unfold Func.isWrapper; first | (rw [if_pos (by decide +kernel)]; kernel_rfl) | (rw [if_neg (by decide +kernel)]; exact ⟨rfl, rfl⟩))
    (fun os started H enc _ => lifted os started H enc)

theorem proved : Rows.FnCountedSaid := over
end Go.Proofs.Ytndecefcnalgdae.fnCounted
