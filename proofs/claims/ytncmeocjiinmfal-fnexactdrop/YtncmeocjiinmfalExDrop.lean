/- FnExactDrop: at every row of blobs and every list of numbers impl.Drop answers as spec.Drop, writes into no argument and keeps nothing of one. For every one, without a condition. (Written by lawgen.py.) -/
import Derived.Test.YtncmeocjiinmfalArgBlobs
import Derived.Test.YtncmeocjiinmfalBlobE
import Derived.Test.YtncmeocjiinmfalBlobM
import Derived.Test.YtncmeocjiinmfalDropI
import Derived.Test.YtncmeocjiinmfalBlobO
import Derived.Test.YtncmeocjiinmfalIntsI
namespace Go.Proofs.Ytncmeocjiinmfal.exDrop
open Go.ChangeShapes Go.WideShapes Go.ChangeAt Go.RowKit
set_option linter.unusedVariables false

set_option maxHeartbeats 2000000 in
set_option maxRecDepth 100000 in
theorem walk (va : Value) (xs : List Bl) (vd : Value) (ds : List Int) (w : World) (ha : RdB w va xs) (hs : ∀ p ∈ xs, p.2.size ≤ 9223372036854775807) (hn : xs.length ≤ 9223372036854775807) (hd : Rd w vd (cellsInt64S ds)) (_hw : ∀ n ∈ ds, (Lit.int .i64 n).wf = true) (hdn : ds.length ≤ 9223372036854775807) :
    Calls Try.prog 5 #[va, vd] w fun e w' => e = .returned (.bool true) ∧ Below w.heap.size w w' := by
  have hdw : ∀ d ∈ ds, In64 d := fun d h => ⟨(wf_i64 (_hw d h)).1, (wf_i64 (_hw d h)).2⟩
  clear _hw
  by_cases hbig : 1048576 < (ds.length : Int)
  · obtain ⟨ao, cap, hv⟩ := rd_shape hd
    rw [List.length_map] at hv
    subst hv
    clear ha hd
    go_enter Try.func5, Try.ntmps5
    go_wp2
    go_ret
    exact ⟨rfl, Below.refl _ _⟩
  have hld : ds.length ≤ 1048576 := by omega
  have hsz := szBlobS_any va xs 1048576 w ha hn hs (by omega) (by omega)
  have HS : Hid (0 ≤ szS (txs xs) 1048576 → xs.length ≤ 1048576 ∧ ∀ p ∈ xs, p.2.size ≤ 1048576) := fun h => by
    obtain ⟨h1, h2⟩ := szS_nonneg h
    rw [List.length_map] at h1
    refine ⟨by omega, fun p hp => ?_⟩
    have := h2 p.2 (List.mem_map_of_mem hp)
    omega
  obtain ⟨z, hz⟩ : ∃ z, z = szS (txs xs) 1048576 := ⟨_, rfl⟩
  rw [← hz] at hsz HS
  clear hz hs hn
  obtain ⟨lo, lcap, hv⟩ := rd_shape hd
  rw [List.length_map] at hv
  obtain ⟨n, hnn⟩ : ∃ n, n = ds.length := ⟨_, rfl⟩
  rw [← hnn] at hv hbig
  subst hv
  by_cases hneg : z < 0
  · clear ha hd hnn hld hdn
    go_enter Try.func5, Try.ntmps5
    go_wp2_with fail
    refine hsz.mono ?_
    rintro e w1 ⟨rfl, hb1⟩
    clear hsz
    go_wp2
    go_ret
    exact ⟨rfl, hb1⟩
  obtain ⟨hl, hst⟩ := HS.out (by omega)
  have HSP := fun (W : World) (v u : Value) (h : RdB W v xs) (k : Rd W u (cellsInt64S ds)) => specDrop_any v u xs ds W h k hl hst hld
  have HIM := fun (W : World) (v u : Value) (h : RdB W v xs) (k : Rd W u (cellsInt64S ds)) => implDrop_any v u xs ds W h k hl hst hld hdw
  have hlen : (dropT xs ds).length ≤ 1048576 := Nat.le_trans (dropT_len xs ds) (by omega)
  generalize dropT xs ds = R at HSP HIM hlen
  have HMB := fun (base : Nat) (v : Value) (ys : List Bl) (W : World) (h : W.ownsRow base 51 2 v ys.length (blC ys)) (hy : ys.length ≤ 1048576) => markBlobS_one base v ys W h hy
  obtain ⟨X, hX⟩ : ∃ X : Nat, X = 1 + 2 * xs.length := ⟨_, rfl⟩
  have HX := Lib.hid hX
  have HHD := fun (v : Value) (W : World) (h : RdB W v (marksBl 1 R.length)) => heldBlobS_one v R.length W h (by omega)
  obtain ⟨K, hK⟩ : ∃ K : Nat, K = 1 + 2 * R.length := ⟨_, rfl⟩
  have HK := Lib.hid hK
  rw [← hK] at HHD
  have hK0 : ¬ ((K : Nat) : Int) < 0 := by omega
  clear hK
  obtain ⟨Y, hY⟩ : ∃ Y : Nat, Y = X + ds.length := ⟨_, rfl⟩
  have hXY : (X : Int) + (ds.length : Int) = (Y : Int) := by omega
  have hX0 : ¬ ((X : Nat) : Int) < 0 := by omega
  have hY0 : ¬ ((Y : Nat) : Int) < 0 := by omega
  have hX1 : X ≤ 4194304 := by omega
  clear hst hX hY hnn hdn hdw
  go_enter Try.func5, Try.ntmps5
  go_wp2_with fail
  refine hsz.mono ?_
  rintro e w0 ⟨rfl, hB0⟩
  have hb0s := hB0.size
  clear hsz HS
  go_wp2_with fail
  refine (toBlobS_any _ xs _ (rdB_below ha hB0) hl).mono ?_
  rintro e w1 ⟨v1, rfl, hoa1, hb1⟩
  have hB1 := hB0.trans (hb1.mono hB0.size)
  have hs1 := hb1.size
  have hva : ∀ k, v1.ownBlock = some k → w0.heap.size ≤ k ∧ k < w1.heap.size := fun k h => hoa1.lt k h
  clear hb1 hB0
  go_wp2_with fail
  refine (toInt64S_any _ ds _ (rd_below hd hB1) hld).mono ?_
  rintro e w2 ⟨v2, rfl, hob2, hb2⟩
  have hB2 := hB1.trans (hb2.mono hB1.size)
  have hs2 := hb2.size
  have hoa2 := owns_below hoa1 hb2
  have hvb : ∀ k, v2.ownBlock = some k → w1.heap.size ≤ k ∧ k < w2.heap.size := fun k h => hob2.lt k h
  clear hoa1 hb2 hB1
  go_wp2_with fail
  refine (HSP _ _ _ (rdB_owns hoa2) (rd_owns hob2)).mono ?_
  rintro e w3 ⟨vw, rfl, hoW3, hb3⟩
  have hB3 := hB2.trans (hb3.mono hB2.size)
  have hs3 := hb3.size
  have hoa3 := owns_below hoa2 hb3
  have hob3 := owns_below hob2 hb3
  have hvW : ∀ k, vw.ownBlock = some k → w2.heap.size ≤ k ∧ k < w3.heap.size := fun k h => hoW3.lt k h
  clear hoa2 hob2 hb3 hB2
  clear hoa3
  clear hob3
  go_wp2_with fail
  refine (toBlobS_any _ xs _ (rdB_below ha hB3) hl).mono ?_
  rintro e w4 ⟨vx, rfl, hoX4, hb4⟩
  have hB4 := hB3.trans (hb4.mono hB3.size)
  have hs4 := hb4.size
  have hoW4 := owns_below hoW3 hb4
  have hvX : ∀ k, vx.ownBlock = some k → w3.heap.size ≤ k ∧ k < w4.heap.size := fun k h => hoX4.lt k h
  clear hoW3 hb4 hB3
  go_wp2_with fail
  refine (toInt64S_any _ ds _ (rd_below hd hB4) hld).mono ?_
  rintro e w5 ⟨vy, rfl, hoY5, hb5⟩
  have hB5 := hB4.trans (hb5.mono hB4.size)
  have hs5 := hb5.size
  have hoW5 := owns_below hoW4 hb5
  have hoX5 := owns_below hoX4 hb5
  have hvY : ∀ k, vy.ownBlock = some k → w4.heap.size ≤ k ∧ k < w5.heap.size := fun k h => hoY5.lt k h
  clear hoW4 hoX4 hb5 hB4
  go_wp2_with fail
  refine (HIM _ _ _ (rdB_owns hoX5) (rd_owns hoY5)).mono ?_
  rintro e w6 ⟨vg, rfl, hoG6, hb6⟩
  have hB6 := hB5.trans (hb6.mono hB5.size)
  have hs6 := hb6.size
  have hoW6 := owns_below hoW5 hb6
  have hoX6 := owns_below hoX5 hb6
  have hoY6 := owns_below hoY5 hb6
  have hvG : ∀ k, vg.ownBlock = some k → w5.heap.size ≤ k ∧ k < w6.heap.size := fun k h => hoG6.lt k h
  clear hoW5 hoX5 hoY5 hb6 hB5
  go_wp2_with fail
  refine (eqBlobS_same vg vw R _ (rdB_owns hoG6) (rdB_owns hoW6) (by omega)).mono ?_
  rintro e w7 ⟨rfl, hb7⟩
  have hB7 := hB6.trans (hb7.mono hB6.size)
  have hs7 := hb7.size
  have hoW7 := owns_below hoW6 hb7
  have hoX7 := owns_below hoX6 hb7
  have hoY7 := owns_below hoY6 hb7
  have hoG7 := owns_below hoG6 hb7
  clear hoW6 hoX6 hoY6 hoG6 hb7 hB6
  go_wp2_with fail
  refine (toBlobS_any _ xs _ (rdB_below ha hB7) hl).mono ?_
  rintro e w8 ⟨v3, rfl, hoc8, hb8⟩
  have hB8 := hB7.trans (hb8.mono hB7.size)
  have hs8 := hb8.size
  have hoW8 := owns_below hoW7 hb8
  have hoX8 := owns_below hoX7 hb8
  have hoY8 := owns_below hoY7 hb8
  have hoG8 := owns_below hoG7 hb8
  have hvc : ∀ k, v3.ownBlock = some k → w7.heap.size ≤ k ∧ k < w8.heap.size := fun k h => hoc8.lt k h
  clear hoW7 hoX7 hoY7 hoG7 hb8 hB7
  go_wp2_with fail
  refine (eqBlobS_same vx v3 xs _ (rdB_owns hoX8) (rdB_owns hoc8) hl).mono ?_
  rintro e w9 ⟨rfl, hb9⟩
  have hB9 := hB8.trans (hb9.mono hB8.size)
  have hs9 := hb9.size
  have hoW9 := owns_below hoW8 hb9
  have hoX9 := owns_below hoX8 hb9
  have hoY9 := owns_below hoY8 hb9
  have hoG9 := owns_below hoG8 hb9
  have hoc9 := owns_below hoc8 hb9
  clear hoW8 hoX8 hoY8 hoG8 hoc8 hb9 hB8
  clear hoc9
  go_wp2_with fail
  refine (toInt64S_any _ ds _ (rd_below hd hB9) hld).mono ?_
  rintro e w10 ⟨v4, rfl, hod10, hb10⟩
  have hB10 := hB9.trans (hb10.mono hB9.size)
  have hs10 := hb10.size
  have hoW10 := owns_below hoW9 hb10
  have hoX10 := owns_below hoX9 hb10
  have hoY10 := owns_below hoY9 hb10
  have hoG10 := owns_below hoG9 hb10
  have hvd : ∀ k, v4.ownBlock = some k → w9.heap.size ≤ k ∧ k < w10.heap.size := fun k h => hod10.lt k h
  clear hoW9 hoX9 hoY9 hoG9 hb10 hB9
  go_wp2_with fail
  refine (eqInt64S_any vy v4 _ _ _ (rd_owns hoY10) (rd_owns hod10) (by omega) (by omega)).mono ?_
  rintro e w11 ⟨rfl, hb11⟩
  have hB11 := hB10.trans (hb11.mono hB10.size)
  have hs11 := hb11.size
  have hoW11 := owns_below hoW10 hb11
  have hoX11 := owns_below hoX10 hb11
  have hoY11 := owns_below hoY10 hb11
  have hoG11 := owns_below hoG10 hb11
  have hod11 := owns_below hod10 hb11
  rw [decide_eq_true rfl]
  clear hoW10 hoX10 hoY10 hoG10 hod10 hb11 hB10
  clear hod11
  have hmx := HMB _ _ _ _ hoX11 hl
  rw [← HX.out] at hmx
  go_wp2_with fail
  refine (hmx).mono ?_
  rintro e w12 ⟨rfl, _, hg12⟩
  have hs12 := hg12.size
  have hB12 : Below w.heap.size w w12 := hB11.grown hg12 hB11.size (fun k hk => by have h2 := hvX k hk; have h3 := hb0s; omega)
  have hoW12 := owns_grown hoW11 hg12 (fun k hk h => by have h1 := hvW k h; have h2 := hvX k hk; omega)
  have hoY12 := owns_grown hoY11 hg12 (fun k hk h => by have h1 := hvY k h; have h2 := hvX k hk; omega)
  have hoG12 := owns_grown hoG11 hg12 (fun k hk h => by have h1 := hvG k h; have h2 := hvX k hk; omega)
  clear hoW11 hoY11 hoG11 hg12 hB11 hoX11
  have hmy := markInt64S_any _ _ X _ _ hoY12 (by omega) (by omega)
  rw [hXY] at hmy
  go_wp2_with fail
  refine (hmy).mono ?_
  rintro e w13 ⟨rfl, _, hg13⟩
  have hs13 := hg13.size
  have hB13 : Below w.heap.size w w13 := hB12.grown hg13 hB12.size (fun k hk => by have h2 := hvY k hk; have h3 := hb0s; omega)
  have hoW13 := owns_grown hoW12 hg13 (fun k hk h => by have h1 := hvW k h; have h2 := hvY k hk; omega)
  have hoG13 := owns_grown hoG12 hg13 (fun k hk h => by have h1 := hvG k h; have h2 := hvY k hk; omega)
  clear hoW12 hoG12 hg13 hB12 hoY12
  clear hmx hmy
  go_wp2_with fail
  refine (eqBlobS_same vg vw R _ (rdB_owns hoG13) (rdB_owns hoW13) (by omega)).mono ?_
  rintro e w14 ⟨rfl, hb14⟩
  have hB14 := hB13.trans (hb14.mono hB13.size)
  have hs14 := hb14.size
  have hoW14 := owns_below hoW13 hb14
  have hoG14 := owns_below hoG13 hb14
  clear hoW13 hoG13 hb14 hB13
  have hmg := HMB _ _ _ _ hoG14 (by omega)
  rw [← HK.out] at hmg
  go_wp2_with fail
  refine (hmg).mono ?_
  rintro e w15 ⟨rfl, hoM15, hg15⟩
  have hs15 := hg15.size
  have hB15 : Below w.heap.size w w15 := hB14.grown hg15 hB14.size (fun k hk => by have h2 := hvG k hk; have h3 := hb0s; omega)
  have hoW15 := owns_grown hoW14 hg15 (fun k hk h => by have h1 := hvW k h; have h2 := hvG k hk; omega)
  have hrG15 := rdB_own_marks hoM15
  clear hoM15
  clear hoW14 hg15 hB14 hoG14
  clear hmg
  go_wp2_with fail
  refine (HHD _ _ hrG15).mono ?_
  rintro e w16 ⟨rfl, hb16⟩
  have hB16 := hB15.trans (hb16.mono hB15.size)
  have hs16 := hb16.size
  have hoW16 := owns_below hoW15 hb16
  have hrG16 := rdB_below hrG15 hb16
  clear hoW15 hrG15 hb16 hB15
  go_wp2_with fail
  refine (toBlobS_any _ xs _ (rdB_below ha hB16) hl).mono ?_
  rintro e w17 ⟨v5, rfl, hoe17, hb17⟩
  have hB17 := hB16.trans (hb17.mono hB16.size)
  have hs17 := hb17.size
  have hoW17 := owns_below hoW16 hb17
  have hrG17 := rdB_below hrG16 hb17
  have hve : ∀ k, v5.ownBlock = some k → w16.heap.size ≤ k ∧ k < w17.heap.size := fun k h => hoe17.lt k h
  clear hoW16 hrG16 hb17 hB16
  go_wp2_with fail
  refine (toInt64S_any _ ds _ (rd_below hd hB17) hld).mono ?_
  rintro e w18 ⟨v6, rfl, hof18, hb18⟩
  have hB18 := hB17.trans (hb18.mono hB17.size)
  have hs18 := hb18.size
  have hoW18 := owns_below hoW17 hb18
  have hoe18 := owns_below hoe17 hb18
  have hrG18 := rdB_below hrG17 hb18
  have hvf : ∀ k, v6.ownBlock = some k → w17.heap.size ≤ k ∧ k < w18.heap.size := fun k h => hof18.lt k h
  clear hoW17 hoe17 hrG17 hb18 hB17
  go_wp2_with fail
  refine (HIM _ _ _ (rdB_owns hoe18) (rd_owns hof18)).mono ?_
  rintro e w19 ⟨vh, rfl, hoH19, hb19⟩
  have hB19 := hB18.trans (hb19.mono hB18.size)
  have hs19 := hb19.size
  have hoW19 := owns_below hoW18 hb19
  have hoe19 := owns_below hoe18 hb19
  have hof19 := owns_below hof18 hb19
  have hrG19 := rdB_below hrG18 hb19
  have hvH : ∀ k, vh.ownBlock = some k → w18.heap.size ≤ k ∧ k < w19.heap.size := fun k h => hoH19.lt k h
  clear hoW18 hoe18 hof18 hrG18 hb19 hB18
  clear hoe19
  clear hof19
  go_wp2_with fail
  refine (eqBlobS_same vh vw R _ (rdB_owns hoH19) (rdB_owns hoW19) (by omega)).mono ?_
  rintro e w20 ⟨rfl, hb20⟩
  have hB20 := hB19.trans (hb20.mono hB19.size)
  have hs20 := hb20.size
  have hoW20 := owns_below hoW19 hb20
  have hoH20 := owns_below hoH19 hb20
  have hrG20 := rdB_below hrG19 hb20
  clear hoW19 hoH19 hrG19 hb20 hB19
  go_wp2_with fail
  refine (HHD _ _ hrG20).mono ?_
  rintro e w21 ⟨rfl, hb21⟩
  have hB21 := hB20.trans (hb21.mono hB20.size)
  have hs21 := hb21.size
  have hoW21 := owns_below hoW20 hb21
  have hoH21 := owns_below hoH20 hb21
  have hrG21 := rdB_below hrG20 hb21
  clear hoW20 hoH20 hrG20 hb21 hB20
  clear hrG21 hoW21 hoH21
  go_wp2
  go_ret
  exact ⟨rfl, hB21⟩

set_option maxRecDepth 100000 in
theorem lifted (os : Os) (started : os.Started) (H : Type) (enc : TypeId × Value → H) :
    ReturnsInHanded {} Try.checked os 5 .any (Rows.fnExactDropSpec.pre6 enc Try.prog Try.f5 Rows.fnExactDropRow.domain false) (Rows.fnExactDropSpec.post enc Try.prog Try.f5 false true false false) := by
  refine returnsInHanded_of_change (C := Try.checked) own started (by kernel_rfl) Try.func5
    (ChangeSpec.witness6 (enc := enc) (C := Try.checked) false ⟨#[], #[.slice none 0 0, .slice none 0 0], []⟩ 8 (by kernel_rfl) (by kernel_rfl) (by kernel_rfl) (by kernel_rfl)) ?_
  intro W base args ds gs before hval0 hW hcnd _
  have hval : ∀ (j : Nat) t v, Try.f5.params[j]? = some t → args[j]? = some v → Value.okWide Try.prog W .any base t v := hval0
  have hW' := hW
  obtain ⟨p, q, hA0, hV, rfl, hfz, hnd⟩ := hW
  have hA : DataW.TrodAll enc Try.prog W 0 (fun _ => true) true Try.f5.params.toList args.toList ds p := hA0
  rw [Try.params5] at hA hval
  obtain ⟨v0, vs0, d0, ds0, p0, q0, hargs0, rfl, rfl, h0, r0⟩ := trodAll_cons hA
  obtain ⟨v1, vs1, d1, ds1, p1, q1, hargs1, rfl, rfl, h1, r1⟩ := trodAll_cons r0
  obtain ⟨rfl, rfl, rfl⟩ := trodAll_nil r1
  obtain rfl : args = #[v0, v1] := by cases args; simp_all
  obtain ⟨rfl, rfl⟩ := trodVars_none hV
  obtain ⟨a0, len0, cap0, rfl⟩ := okWide_slice Try.underlying22 (hval 0 22 v0 rfl rfl)
  have k0 := h0
  have lt0 : ∀ x ∈ p0, x.block < W.heap.size := by obtain ⟨m, hm⟩ := k0; exact DataW.trod_lt m _ _ _ hm
  obtain ⟨zs0, hr0, hs0⟩ := arg_blobs h0
  obtain ⟨a1, len1, cap1, rfl⟩ := okWide_slice Try.underlying34 (hval 1 34 v1 rfl rfl)
  have k1 := h1
  have lt1 : ∀ x ∈ p1, x.block < W.heap.size := by obtain ⟨m, hm⟩ := k1; exact DataW.trod_lt m _ _ _ hm
  obtain ⟨zs1, hr1, hs1⟩ : ∃ zs : List Int, Rd W (.slice a1 len1 cap1) (zs.map (Value.int .i64)) ∧ ((∀ n ∈ zs, (Lit.int .i64 n).wf = true) ∧ zs.length ≤ 9223372036854775807) := by
    obtain ⟨fuel, hf⟩ := h1
    rcases open_ints Try.underlying34 Try.underlying2 (by kernel_rfl) hf with ⟨hcs, _⟩ | ⟨x, l, c, zs, hcs, _, hl, hm, hz, _, hcell, hwz⟩
    · simp [Value.cells] at hcs
      obtain ⟨rfl, rfl, rfl⟩ := hcs
      exact ⟨[], ⟨none, 0, rfl, Nat.le_refl _, fun h => absurd rfl h⟩, (fun x hx => absurd hx List.not_mem_nil), Nat.zero_le _⟩
    · simp [Value.cells] at hcs
      obtain ⟨rfl, rfl, rfl⟩ := hcs
      exact arg_ints .i64 hl hm (by simpa using hz) hcell hwz
  clear hA0 hval0
  refine (walk _ zs0 _ zs1 W hr0 hs0.1 hs0.2 hr1 hs1.1 hs1.2).mono fun e W' ⟨he, bel⟩ => ?_
  subst he
  exact ⟨_, rfl, _, _, _, [], _, [], hW', trodAll_mk1 (shut_bool Try.underlying4 _), (trodAll_cons_mk (Below.trod laidOut (by kernel_rfl) (of_decide_eq_true (by kernel_rfl)) k0 bel lt0) (trodAll_cons_mk (Below.trod laidOut (by kernel_rfl) (of_decide_eq_true (by kernel_rfl)) k1 bel lt1) trodAll_mk0)), rfl, bel.frame _, fun h => by cases h⟩

theorem over : Rows.fnExactDropRow.holds Try.pinned (OpenSpec.ofChange Rows.fnExactDropSpec) :=
  OpenClaim.holds_of_wide 5 Try.f5 rfl rfl rfl rfl rfl rfl rfl ⟨rfl, rfl, rfl, rfl, rfl⟩ rfl rfl rfl rfl rfl (by kernel_rfl) Try.func5 (by kernel_rfl)
    (of_decide_eq_true (by kernel_rfl)) (by unfold Func.isWrapper; first | (rw [if_pos (by decide +kernel)]; kernel_rfl) | (rw [if_neg (by decide +kernel)]; exact ⟨rfl, rfl⟩))
    (fun os started H enc _ => lifted os started H enc)

theorem proved : Rows.FnExactDropSaid := over
end Go.Proofs.Ytncmeocjiinmfal.exDrop
