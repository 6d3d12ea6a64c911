/- FnExactRanks: at every argument impl.Ranks answers as spec.Ranks, writes into no argument and keeps nothing of one. For every one, without a condition. (Written by lawgen12.py.) -/
import Derived.Test.YtidmaaglfckcbapDoorScoI
import Derived.Test.YtidmaaglfckcbapDoorArgs
import Derived.Test.YtidmaaglfckcbapDoorCards
import Derived.Test.YtidmaaglfckcbapDoorTie
import Derived.SevenTiedAt
import Derived.LaidMore
import Derived.Stop.Joined
import Derived.Test.YtidmaaglfckcbapDoorIntsI
namespace Go.Proofs.YtidmaaglfckcbapDoor.exRanks
open Go.ChangeShapes Go.WideShapes Go.ChangeAt Go.RowKit
set_option linter.unusedVariables false
theorem ans_len (l : List Int) (k : Int) : (ranksT l k).length ≤ 256 := Nat.le_trans (ranksT_len l k) (by decide)
set_option maxHeartbeats 4000000 in
set_option maxRecDepth 100000 in
theorem walk (va : Value) (xs : List Int) (n0 : Int) (w : World) (hL : laidMetH Tryd.prog Rows.fnExactRanksRow.laid w) (ha : Rd w va (cellsInt64S xs)) (hza : ∀ n ∈ xs, (Lit.int .i64 n).wf = true) (hna : xs.length ≤ 9223372036854775807) (n0l : -9223372036854775808 ≤ n0) (n0h : n0 ≤ 9223372036854775807) :
    Calls Tryd.prog 4 #[va, .int .i64 n0] w fun e w' => e = .returned (.bool true) ∧ Below w.heap.size w w' := by
  have hla : (cellsInt64S xs).length = xs.length := by simp
  by_cases hbig : 1048576 < (xs.length : Int)
  · obtain ⟨ao, cap, hv, _⟩ := ha
    rw [hla] at hv
    subst hv
    clear hza hL
    go_enter Tryd.func4, Tryd.ntmps4
    go_wp2
    go_ret
    exact ⟨rfl, Below.refl _ _⟩
  have hl : xs.length ≤ 1048576 := by omega
  have hshape : ∃ ao cap, va = .slice ao xs.length cap := by
    obtain ⟨ao, cap, hv, _⟩ := ha
    rw [hla] at hv
    exact ⟨ao, cap, hv⟩
  have HSP := fun (W : World) (v : Value) (h : Rd W v (cellsInt64S xs)) => specRanksT_any v xs n0 W h hl n0h
  have HTAB : TabP w := tab_of hL
  have HIM := fun (W : World) (v : Value) (hB : Below w.heap.size w W) (h : Rd W v (cellsInt64S xs)) => implRanks_any v xs n0 W (tab_below HTAB hB) h hl n0h (fun x hx => (wf_i64 (hza x hx)).2)
  clear HTAB hL
  have hlen := ans_len xs n0
  generalize ranksT xs n0 = R at HSP HIM hlen
  obtain ⟨X, hX⟩ : ∃ X : Nat, X = 1 + xs.length := ⟨_, rfl⟩
  have hXX : (1 : Int) + (xs.length : Int) = (X : Int) := by omega
  have hX0 : ¬ ((X : Nat) : Int) < 0 := by omega
  clear hX
  have HHD := fun (v : Value) (W : World) (h : Rd W v (cellsInt64S (marksInt64S 1 R.length))) => heldInt64S_one v R.length W h (by omega)
  obtain ⟨K, hK⟩ : ∃ K : Nat, K = 1 + R.length := ⟨_, rfl⟩
  have hKK : (1 : Int) + (R.length : Int) = (K : Int) := by omega
  rw [hKK] at HHD
  have hK0 : ¬ ((K : Nat) : Int) < 0 := by omega
  clear hK
  have hB0 := Below.refl w.heap.size w
  have hb0s : w.heap.size ≤ w.heap.size := Nat.le_refl _
  obtain ⟨ao, cap, hva⟩ := hshape
  subst hva
  clear hza hla
  go_enter Tryd.func4, Tryd.ntmps4
  go_wp2_with fail
  refine (toInt64S_any _ xs _ (rd_below ha hB0) hl).mono ?_
  rintro e w1 ⟨v1, rfl, hoa1, hb1⟩
  have hB1 := hB0.trans (hb1.mono hB0.size)
  have hs1 := hb1.size
  have hva : ∀ k, v1.ownBlock = some k → w.heap.size ≤ k ∧ k < w1.heap.size := fun k h => hoa1.lt k h
  clear hb1 hB0
  go_wp2_with fail
  refine (HSP _ _ (rd_owns hoa1)).mono ?_
  rintro e w2 ⟨vw, rfl, hoW2, hb2⟩
  have hB2 := hB1.trans (hb2.mono hB1.size)
  have hs2 := hb2.size
  have hoa2 := owns_below hoa1 hb2
  have hvW : ∀ k, vw.ownBlock = some k → w1.heap.size ≤ k ∧ k < w2.heap.size := fun k h => hoW2.lt k h
  clear hoa1 hb2 hB1
  clear hoa2
  go_wp2_with fail
  refine (toInt64S_any _ xs _ (rd_below ha hB2) hl).mono ?_
  rintro e w3 ⟨vx, rfl, hoX3, hb3⟩
  have hB3 := hB2.trans (hb3.mono hB2.size)
  have hs3 := hb3.size
  have hoW3 := owns_below hoW2 hb3
  have hvX : ∀ k, vx.ownBlock = some k → w2.heap.size ≤ k ∧ k < w3.heap.size := fun k h => hoX3.lt k h
  clear hoW2 hb3 hB2
  go_wp2_with fail
  refine (HIM _ _ hB3 (rd_owns hoX3)).mono ?_
  rintro e w4 ⟨vg, rfl, hoG4, hb4⟩
  have hB4 := hB3.trans (hb4.mono hB3.size)
  have hs4 := hb4.size
  have hoW4 := owns_below hoW3 hb4
  have hoX4 := owns_below hoX3 hb4
  have hvG : ∀ k, vg.ownBlock = some k → w3.heap.size ≤ k ∧ k < w4.heap.size := fun k h => hoG4.lt k h
  clear hoW3 hoX3 hb4 hB3
  go_wp2_with fail
  refine (eqInt64S_any vg vw _ _ _ (rd_owns hoG4) (rd_owns hoW4) (by omega) (by omega)).mono ?_
  rintro e w5 ⟨rfl, hb5⟩
  have hB5 := hB4.trans (hb5.mono hB4.size)
  have hs5 := hb5.size
  have hoW5 := owns_below hoW4 hb5
  have hoX5 := owns_below hoX4 hb5
  have hoG5 := owns_below hoG4 hb5
  rw [decide_eq_true rfl]
  clear hoW4 hoX4 hoG4 hb5 hB4
  go_wp2_with fail
  refine (toInt64S_any _ xs _ (rd_below ha hB5) hl).mono ?_
  rintro e w6 ⟨v3, rfl, hoc6, hb6⟩
  have hB6 := hB5.trans (hb6.mono hB5.size)
  have hs6 := hb6.size
  have hoW6 := owns_below hoW5 hb6
  have hoX6 := owns_below hoX5 hb6
  have hoG6 := owns_below hoG5 hb6
  have hvc : ∀ k, v3.ownBlock = some k → w5.heap.size ≤ k ∧ k < w6.heap.size := fun k h => hoc6.lt k h
  clear hoW5 hoX5 hoG5 hb6 hB5
  go_wp2_with fail
  refine (eqInt64S_any vx v3 _ _ _ (rd_owns hoX6) (rd_owns hoc6) (by omega) (by omega)).mono ?_
  rintro e w7 ⟨rfl, hb7⟩
  have hB7 := hB6.trans (hb7.mono hB6.size)
  have hs7 := hb7.size
  have hoW7 := owns_below hoW6 hb7
  have hoX7 := owns_below hoX6 hb7
  have hoG7 := owns_below hoG6 hb7
  have hoc7 := owns_below hoc6 hb7
  rw [decide_eq_true rfl]
  clear hoW6 hoX6 hoG6 hoc6 hb7 hB6
  clear hoc7
  have hmx := markInt64S_one _ _ _ _ hoX7 (by omega)
  rw [hXX] at hmx
  go_wp2_with fail
  refine (hmx).mono ?_
  rintro e w8 ⟨rfl, _, hg8⟩
  have hs8 := hg8.size
  have hB8 : Below w.heap.size w w8 := hB7.grown hg8 hB7.size (fun k hk => by have h2 := hvX k hk; have h3 := hb0s; omega)
  have hoW8 := owns_grown hoW7 hg8 (fun k hk h => by have h1 := hvW k h; have h2 := hvX k hk; omega)
  have hoG8 := owns_grown hoG7 hg8 (fun k hk h => by have h1 := hvG k h; have h2 := hvX k hk; omega)
  clear hoW7 hoG7 hg8 hB7 hoX7
  clear hmx
  go_wp2_with fail
  refine (eqInt64S_any vg vw _ _ _ (rd_owns hoG8) (rd_owns hoW8) (by omega) (by omega)).mono ?_
  rintro e w9 ⟨rfl, hb9⟩
  have hB9 := hB8.trans (hb9.mono hB8.size)
  have hs9 := hb9.size
  have hoW9 := owns_below hoW8 hb9
  have hoG9 := owns_below hoG8 hb9
  rw [decide_eq_true rfl]
  clear hoW8 hoG8 hb9 hB8
  have hmg := markInt64S_one _ _ _ _ hoG9 (by omega)
  rw [hKK] at hmg
  go_wp2_with fail
  refine (hmg).mono ?_
  rintro e w10 ⟨rfl, hoM10, hg10⟩
  have hs10 := hg10.size
  have hB10 : Below w.heap.size w w10 := hB9.grown hg10 hB9.size (fun k hk => by have h2 := hvG k hk; have h3 := hb0s; omega)
  have hoW10 := owns_grown hoW9 hg10 (fun k hk h => by have h1 := hvW k h; have h2 := hvG k hk; omega)
  have hrG10 := rd_owns hoM10
  clear hoM10
  clear hoW9 hg10 hB9 hoG9
  clear hmg
  go_wp2_with fail
  refine (HHD _ _ hrG10).mono ?_
  rintro e w11 ⟨rfl, hb11⟩
  have hB11 := hB10.trans (hb11.mono hB10.size)
  have hs11 := hb11.size
  have hoW11 := owns_below hoW10 hb11
  have hrG11 := rd_below hrG10 hb11
  clear hoW10 hrG10 hb11 hB10
  go_wp2_with fail
  refine (toInt64S_any _ xs _ (rd_below ha hB11) hl).mono ?_
  rintro e w12 ⟨v5, rfl, hoe12, hb12⟩
  have hB12 := hB11.trans (hb12.mono hB11.size)
  have hs12 := hb12.size
  have hoW12 := owns_below hoW11 hb12
  have hrG12 := rd_below hrG11 hb12
  have hve : ∀ k, v5.ownBlock = some k → w11.heap.size ≤ k ∧ k < w12.heap.size := fun k h => hoe12.lt k h
  clear hoW11 hrG11 hb12 hB11
  go_wp2_with fail
  refine (HIM _ _ hB12 (rd_owns hoe12)).mono ?_
  rintro e w13 ⟨vh, rfl, hoH13, hb13⟩
  have hB13 := hB12.trans (hb13.mono hB12.size)
  have hs13 := hb13.size
  have hoW13 := owns_below hoW12 hb13
  have hoe13 := owns_below hoe12 hb13
  have hrG13 := rd_below hrG12 hb13
  have hvH : ∀ k, vh.ownBlock = some k → w12.heap.size ≤ k ∧ k < w13.heap.size := fun k h => hoH13.lt k h
  clear hoW12 hoe12 hrG12 hb13 hB12
  clear hoe13
  go_wp2_with fail
  refine (eqInt64S_any vh vw _ _ _ (rd_owns hoH13) (rd_owns hoW13) (by omega) (by omega)).mono ?_
  rintro e w14 ⟨rfl, hb14⟩
  have hB14 := hB13.trans (hb14.mono hB13.size)
  have hs14 := hb14.size
  have hoW14 := owns_below hoW13 hb14
  have hoH14 := owns_below hoH13 hb14
  have hrG14 := rd_below hrG13 hb14
  rw [decide_eq_true rfl]
  clear hoW13 hoH13 hrG13 hb14 hB13
  go_wp2_with fail
  refine (HHD _ _ hrG14).mono ?_
  rintro e w15 ⟨rfl, hb15⟩
  have hB15 := hB14.trans (hb15.mono hB14.size)
  have hs15 := hb15.size
  have hoW15 := owns_below hoW14 hb15
  have hoH15 := owns_below hoH14 hb15
  have hrG15 := rd_below hrG14 hb15
  clear hoW14 hoH14 hrG14 hb15 hB14
  clear hrG15 hoW15 hoH15
  go_wp2
  go_ret
  exact ⟨rfl, hB15⟩

theorem door_met (os : Os) (args : Array Value) : laidMetH Tryd.prog Rows.fnExactRanksRow.laid ((World.doorLaid Tryd.prog 400 os).forCall (fun _ _ => 0) ⟨#[], args, []⟩).memory :=
  laidMetH_of_parts3 (fuel := 8) (laidMet_of_run' 8 (by kernel_rfl) (by kernel_rfl)) (by kernel_rfl) (by kernel_rfl)
set_option maxRecDepth 100000 in
theorem lifted (os : Os) (started : os.Started) (H : Type) (enc : TypeId × Value → H) :
    ReturnsInHanded {} Tryd.checked os 4 .any (fun w args => (Rows.fnExactRanksSpec.pre enc Tryd.prog Tryd.f4 [] false w args ∧ laidMetH Tryd.prog Rows.fnExactRanksRow.laid w) ∧ sizedMet enc Tryd.prog Tryd.f4 (OpenSpec.ofChange Rows.fnExactRanksSpec) false w args)
      (Rows.fnExactRanksSpec.post enc Tryd.prog Tryd.f4 false true false false) := by
  refine returnsInHanded_of_change_and (C := Tryd.checked) (X := fun w _ => laidMetH Tryd.prog Rows.fnExactRanksRow.laid w) (fun _ _ _ hh h => h.of_heap hh) own started (by kernel_rfl) Tryd.func4
    (ChangeSpec.witness_shaped (enc := enc) (C := Tryd.checked) (os := os) (X := fun w _ => laidMetH Tryd.prog Rows.fnExactRanksRow.laid w) false (World.doorLaid Tryd.prog 400 os) #[.slice none 0 0, .int .i64 0] 8 rfl (World.shaped_of_RefB (by kernel_rfl) (by kernel_rfl)) (by kernel_rfl) (by kernel_rfl) (by kernel_rfl) (door_met os _)) ?_
  intro W base args ds gs before hval0 hW _ _ hL _
  have hval : ∀ (j : Nat) t v, Tryd.f4.params[j]? = some t → args[j]? = some v → Value.okWide Tryd.prog W .any base t v := hval0
  have hW' := hW
  obtain ⟨p, q, hA0, hV, rfl, hfz, hnd⟩ := hW
  have hA : DataW.TrodAll enc Tryd.prog W 0 (fun _ => true) true Tryd.f4.params.toList args.toList ds p := hA0
  rw [Tryd.params4] at hA hval
  obtain ⟨v0, vs0, d0, ds0, p0, q0, hargs0, rfl, rfl, h0, r0⟩ := trodAll_cons hA
  obtain ⟨v1, vs1, d1, ds1, p1, q1, hargs1, rfl, rfl, h1, r1⟩ := trodAll_cons r0
  obtain ⟨rfl, rfl, rfl⟩ := trodAll_nil r1
  obtain rfl : args = #[v0, v1] := by cases args; simp_all
  obtain ⟨rfl, rfl⟩ := trodVars_none hV
  obtain ⟨a0, len0, cap0, rfl⟩ := okWide_slice Tryd.underlying22 (hval 0 22 v0 rfl rfl)
  have k0 := h0
  have lt0 : ∀ x ∈ p0, x.block < W.heap.size := by obtain ⟨m, hm⟩ := k0; exact DataW.trod_lt m _ _ _ hm
  obtain ⟨zs0, hr0, hs0⟩ : ∃ zs : List Int, Rd W (.slice a0 len0 cap0) (zs.map (Value.int .i64)) ∧ ((∀ n ∈ zs, (Lit.int .i64 n).wf = true) ∧ zs.length ≤ 9223372036854775807) := by
    obtain ⟨fuel, hf⟩ := h0
    rcases open_ints Tryd.underlying22 Tryd.underlying2 (by kernel_rfl) hf with ⟨hcs, _⟩ | ⟨x, l, c, zs, hcs, _, hl, hm, hz, _, hcell, hwz⟩
    · simp [Value.cells] at hcs
      obtain ⟨rfl, rfl, rfl⟩ := hcs
      exact ⟨[], ⟨none, 0, rfl, Nat.le_refl _, fun h => absurd rfl h⟩, (fun x hx => absurd hx List.not_mem_nil), Nat.zero_le _⟩
    · simp [Value.cells] at hcs
      obtain ⟨rfl, rfl, rfl⟩ := hcs
      exact arg_ints .i64 hl hm (by simpa using hz) hcell hwz
  obtain ⟨a1, rfl, rfl, rfl, w1⟩ := open_int Tryd.underlying2 (hval 1 2 v1 rfl rfl) h1
  clear hA0 hval0
  refine (walk _ zs0 a1 W hL hr0 hs0.1 hs0.2 (wf_i64 w1).1 (wf_i64 w1).2).mono fun e W' ⟨he, bel⟩ => ?_
  subst he
  exact ⟨_, rfl, _, _, _, [], _, [], hW', trodAll_mk1 (shut_bool Tryd.underlying4 _), (trodAll_cons_mk (Below.trod laidOut (by kernel_rfl) (of_decide_eq_true (by kernel_rfl)) k0 bel lt0) (trodAll_cons_mk (shut_int Tryd.underlying2 w1) trodAll_mk0)), rfl, bel.frame _, fun h => by cases h⟩

theorem over : Rows.fnExactRanksRow.holds Tryd.pinned (OpenSpec.ofChange Rows.fnExactRanksSpec) :=
  OpenClaim.holds_of_wide 4 Tryd.f4 rfl rfl rfl rfl rfl rfl rfl ⟨rfl, rfl, rfl, rfl, rfl⟩ rfl rfl rfl rfl rfl (by kernel_rfl) Tryd.func4 (by kernel_rfl)
    (of_decide_eq_true (by kernel_rfl)) (by unfold Func.isWrapper; first | (rw [if_pos (by decide +kernel)]; kernel_rfl) | (rw [if_neg (by decide +kernel)]; exact ⟨rfl, rfl⟩))
    (fun os started H enc _ => lifted os started H enc)

theorem proved : Rows.FnExactRanksCardSaid :=
  Claim7.holds_tied_plain_at .later [] Rows.fnExactRanksCard.laidKinds true Rows.fnExactRanksCard.stood.harness Rows.fnExactRanksCard.stood.looks
    over (fun _ h => by cases h) (by kernel_rfl) (fun _ h => by cases h) fnExactRanks_row_tie rfl ⟨rfl, rfl⟩ (by kernel_rfl) rfl
    (fun f fn hf hfn => by
      obtain rfl : f = 4 := Option.some.inj ((show Tryd.prog.funcNamed Rows.fnExactRanksRow.func = some 4 by kernel_rfl).symm.trans hf) |>.symm
      obtain rfl : fn = Tryd.f4 := (Option.some.inj (Tryd.func4.symm.trans hfn)).symm
      exact ⟨by kernel_rfl, fun j t ht => by
        rw [Tryd.params4] at ht
        have hm : t ∈ [22, 2] := by simpa using Array.mem_of_getElem? ht
        have hall : ([22, 2].all fun u => !Tryd.prog.wantsStandIn u) = true := by kernel_rfl
        exact (show Tryd.prog.wantsStandIn t = false by simpa using List.all_eq_true.1 hall t hm)⟩)
    (by kernel_rfl)
end Go.Proofs.YtidmaaglfckcbapDoor.exRanks
