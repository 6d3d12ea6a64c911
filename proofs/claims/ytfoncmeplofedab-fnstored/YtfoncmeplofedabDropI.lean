/- CONTRACTS: the program's without, Drop. -/
import Derived.Test.YtfoncmeplofedabMissI
import Derived.Test.YtfoncmeplofedabRowz
import Derived.Test.YtfoncmeplofedabSetOf
namespace Go.Proofs.Ytfoncmeplofedab
open Go.RowKit Go.Maps
set_option linter.unusedVariables false
theorem take_set_snoc {M : List Bl} {q : Nat} {x : Bl} (h : q < M.length) : (M.set q x).take (q + 1) = M.take q ++ [x] := by
  rw [List.take_succ_eq_append_getElem (by rw [List.length_set]; exact h), List.take_set_of_le (Nat.le_refl _)]
  simp
set_option maxHeartbeats 4000000 in
set_option maxRecDepth 100000 in
theorem without_any (va vd : Value) (l : List Bl) (ds : List Int) (w : World) (ha : RdB w va l) (hd : Rd w vd (cellsInt64S ds)) (hl : l.length ≤ 1048576) (hs : ∀ p ∈ l, p.2.size ≤ 1048576) (hld : ds.length ≤ 1048576) (hdw : ∀ d ∈ ds, In64 d) (hlw : ∀ p ∈ l, In64 p.1) :
    Calls Try.prog 122 #[va, vd] w fun e w' => ∃ v, e = .returned v ∧ w'.ownsRow w.heap.size 70 2 v (l.filter fun p => !(ds.contains p.1)).length (blC (l.filter fun p => !(ds.contains p.1))) ∧ Below w.heap.size w w' := by
  have hmm := @run_makeMap Try.prog
  have mn := fun z W => meth_number z W
  have HOWN : Hid (∀ w', Below w.heap.size w w' → Calls Try.prog 117 #[va] w' fun e w'' => ∃ g, e = .returned (.slice (some ⟨g, 0, none⟩) l.length l.length) ∧ w''.ownsRow w'.heap.size 70 2 (.slice (some ⟨g, 0, none⟩) l.length l.length) l.length (blC l) ∧ Below w'.heap.size w' w'') := fun w' h => ownBl_any va l w' (rdB_below ha h) hl (fun p hp => by have := hs p hp; omega)
  obtain ⟨aol, capl, hval⟩ := rdB_shape ha
  have HLW : Hid (∀ j, j < l.length → In64 (l.getD j bl0).1) := fun j hj => by
    rw [getD_at hj]
    exact hlw _ (List.getElem_mem hj)
  have HFI : Hid (∀ k, k < l.length → (l.take (k + 1)).filter (fun p => !(ds.contains p.1)) = (l.take k).filter (fun p => !(ds.contains p.1)) ++ (if (!(ds.contains (l.getD k bl0).1)) = true then [l.getD k bl0] else [])) := fun k hk => filter_snoc (fun p : Bl => !(ds.contains p.1)) l bl0 k hk
  have HFE : Hid ((l.take l.length).filter (fun p => !(ds.contains p.1)) = l.filter (fun p => !(ds.contains p.1))) := by
    show _ = _
    rw [List.take_length]
  have HF0 : Hid ((l.take 0).filter (fun p => !(ds.contains p.1)) = []) := rfl
  have HFL : Hid (∀ k, ((l.take k).filter (fun p => !(ds.contains p.1))).length ≤ k) := fun k => Nat.le_trans (List.length_filter_le _ _) (by rw [List.length_take]; omega)
  generalize hF : (fun k => (l.take k).filter (fun p => !(ds.contains p.1))) = F
  have hFk : ∀ k, (l.take k).filter (fun p => !(ds.contains p.1)) = F k := fun k => by rw [← hF]
  simp only [hFk] at HFI HFE HF0 HFL
  clear hF hFk
  generalize l.filter (fun p => !(ds.contains p.1)) = R at HFE ⊢
  obtain ⟨n, hn⟩ : ∃ n, n = l.length := ⟨_, rfl⟩
  have HN : Hid (n = l.length) := hn
  rw [← hn] at hval hl HOWN HFI HFE HLW
  clear hn ha hs hlw
  have hso := setOf_any vd ds w hd (by omega) hdw
  obtain ⟨aod, capd, hvd⟩ := rd_shape hd
  generalize (cellsInt64S ds).length = m at hvd
  clear hd hdw
  subst hval
  subst hvd
  go_enter Try.func122, Try.ntmps122
  go_wp2_with fail
  refine hso.mono ?_
  rintro e wr ⟨D, rfl, hm, hhas, _, hbz, hb⟩
  obtain ⟨bm, hbm⟩ : ∃ bm, bm = w.heap.size := ⟨_, rfl⟩
  rw [← hbm] at hm hbz hb HOWN ⊢
  have HBM : Hid (Below bm w w → bm = w.heap.size) := fun _ => hbm
  have HHD := Lib.hid hhas
  obtain ⟨k, hkd⟩ : ∃ k, k = ds.length := ⟨_, rfl⟩
  rw [← hkd] at hm
  clear hso hbm hhas hkd
  focus
    have hcall := HOWN.out wr hb
    have hs1 := hb.size
    go_wp2_with fail
    refine hcall.mono ?_
    rintro e w2 ⟨g, rfl, ho2, hb2⟩
    have hB2 := hb.trans (hb2.mono (by omega))
    have hM2 := setM_below hm hb2
    have ho3 := owns_base ho2 (show bm + 1 ≤ wr.heap.size by omega)
    have hz2 := hb2.size
    clear hcall hb2 hm ho2
    go_wp2
    go_loopw [7, 16] (fun p i w5 => ∃ (j q : Nat) (M : List Bl), j ≤ n ∧ q ≤ j ∧ p = .int .i64 q ∧ i = .int .i64 j ∧ M.length = n ∧ M.take q = F j ∧ Hid (∀ z, j ≤ z → z < n → M.getD z bl0 = l.getD z bl0) ∧ w5.ownsRow (bm + 1) 70 2 (.slice (some ⟨g, 0, none⟩) n n) n (blC M) ∧ SetM bm k D w5 ∧ Below bm w w5) (fun _ i _ => n - (intOf i).toNat)
    case atStart => exact ⟨0, 0, l, Nat.zero_le _, Nat.le_refl _, rfl, rfl, HN.out.symm, by rw [HF0.out]; rfl, fun z _ _ => rfl, ho3, hM2, hB2⟩
    case round =>
      rename World => w5
      obtain ⟨j, q, M, hj, hq, rfl, rfl, hMl, hMF, hrest, ho, hm, hb5⟩ := hrel
      clear hB2 hM2 ho3 hb
      have hgB := (ho.lt g rfl).1
      have hgl := (ho.lt g rfl).2
      by_cases hltj : j < n
      focus
        have hjM : j < M.length := by omega
        obtain ⟨e0, e1⟩ := blC_get M j hjM
        have c0 := ho.cellAt (j * 2) (by omega)
        have c1 := ho.cellAt (j * 2 + 1) (by omega)
        rw [e0, hrest.out j (Nat.le_refl _) hltj] at c0
        rw [e1, hrest.out j (Nat.le_refl _) hltj] at c1
        have hjl : j < l.length := by have := HN.out; omega
        have hw64 := HLW.out j hltj
        have hFj := HFI.out j hltj
        have hrest2 : Hid (∀ z, j + 1 ≤ z → z < n → M.getD z bl0 = l.getD z bl0) := fun z h1 h2 => hrest.out z (by omega) h2
        obtain ⟨x, hx⟩ : ∃ x, x = l.getD j bl0 := ⟨_, rfl⟩
        rw [← hx] at c0 c1 hw64 hFj
        obtain ⟨x1, x2⟩ := x
        simp only at c0 c1 hw64 hFj
        clear hx e0 e1 hrest
        have hs5 := hb5.size
        have ba : Below w5.heap.size w5 (w5.alloc (.cells #[.int .i64 x1, .string x2] 70)) := (Below.refl _ _).alloc (Nat.le_refl _) _
        have hnum := blNumber_any x1 x2 (w5.alloc (.cells #[.int .i64 x1, .string x2] 70))
        have hbx := heap_alloc_new w5 (.cells #[.int .i64 x1, .string x2] 70)
        have HHX := HHD.out x1
        go_wp2_with fail
        refine hnum.mono ?_
        rintro e w6 ⟨rfl, hb6⟩
        have B6 := ba.trans (hb6.mono ba.size)
        have hbx6 := (hb6.block w5.heap.size (by rw [World.size_alloc]; omega)).trans hbx
        have hM6 := setM_below hm B6
        have hcall := has_any bm k D x1 w6 hw64 hM6
        have hsz6 : w5.heap.size < w6.heap.size := by have := hb6.size; rw [World.size_alloc] at this; omega
        rw [HHX] at hcall
        clear hb6 hbx hnum ba HHX
        cases hcn : ds.contains x1 with
        | true =>
          rw [hcn] at hcall hFj
          have HF2 : Hid (F (j + 1) = F j) := by show _ = _; rw [hFj]; simp
          clear hFj hcn
          go_wp2_with fail
          refine hcall.mono ?_
          rintro e w7 ⟨rfl, hb7⟩
          have B7 := B6.trans (hb7.mono (by omega))
          have HO7 := Lib.hid (owns_below ho B7)
          have HM7 := Lib.hid (setM_below hm B7)
          have HB7 := Lib.hid (hb5.trans (B7.mono (by omega)))
          clear hcall hb7 B6 B7 hM6 hm ho hb5 c0 c1
          go_wp2
          go_roundw
          case rel => exact ⟨j + 1, q, M, by omega, by omega, rfl, by go_num, hMl, by rw [HF2.out]; exact hMF, hrest2, HO7.out, HM7.out, HB7.out⟩
          case measure => simp [intOf]; omega
        | false =>
          rw [hcn] at hcall hFj
          have HF2 : Hid (F (j + 1) = F j ++ [(x1, x2)]) := by show _ = _; rw [hFj]; simp
          clear hFj hcn
          go_wp2_with fail
          refine hcall.mono ?_
          rintro e w7 ⟨rfl, hb7⟩
          have B7 := B6.trans (hb7.mono (by omega))
          have ho7 := owns_below ho B7
          have HB7 := Lib.hid (hb5.trans (B7.mono (by omega)))
          have hsz7 : bm ≤ w7.heap.size := by have := B7.size; omega
          have hbx7 := (hb7.block w5.heap.size hsz6).trans hbx6
          have k0 := cell_of_row w7 w5.heap.size 0 _ _ (0, 0) hbx7
          have k1 := cell_of_row w7 w5.heap.size 1 _ _ (0, 0) hbx7
          have hqM : q < M.length := by omega
          obtain ⟨e0, e1⟩ := blC_get M q hqM
          have f0 := ho7.cellAt (q * 2) (by omega)
          have f1 := ho7.cellAt (q * 2 + 1) (by omega)
          rw [e0] at f0
          rw [e1] at f1
          have z0 := ho7.frozenAt (q * 2)
          have z1 := ho7.frozenAt (q * 2 + 1)
          have hst1 := ho7.stored (q * 2) (.int .i64 x1)
          have hst2 := hst1.1.stored (q * 2 + 1) (.string x2)
          rw [blC_set _ q (x1, x2) hqM] at hst2
          have HO := Lib.hid hst2.1
          have HG := Lib.hid (grown_trans hst1.2 hst2.2)
          have HM := Lib.hid (setM_grown (setM_below hm B7) HG.out (fun h => by have e : bm = g := Option.some.inj h; omega))
          have HT : Hid ((M.set q (x1, x2)).take (q + 1) = F (j + 1)) := by show _ = _; rw [take_set_snoc hqM, hMF, HF2.out]
          have HR : Hid (∀ z, j + 1 ≤ z → z < n → (M.set q (x1, x2)).getD z bl0 = l.getD z bl0) := fun z h1 h2 => by
            rw [← hrest2.out z h1 h2]
            simp [List.getD, show ¬ q = z by omega]
          have HBB := Lib.hid (HB7.out.grown HG.out hsz7 (fun i h => by have e : g = i := Option.some.inj h; omega))
          have HML : Hid ((M.set q (x1, x2)).length = n) := by show _ = _; rw [List.length_set]; exact hMl
          obtain ⟨u0, hu0⟩ : ∃ u0, u0 = (M.getD q bl0).1 := ⟨_, rfl⟩
          obtain ⟨u1, hu1⟩ : ∃ u1, u1 = (M.getD q bl0).2 := ⟨_, rfl⟩
          rw [← hu0] at f0
          rw [← hu1] at f1
          have hqn : q < n := by omega
          clear hcall hb7 B6 B7 hM6 hm ho ho7 hb5 c0 c1 hst1 hst2 e0 e1 hu0 hu1 hbx6 hbx7 hMF hMl HG HB7
          go_wp2
          go_roundw
          case rel => exact ⟨j + 1, q + 1, M.set q (x1, x2), by omega, by omega, by go_num, by go_num, HML.out, HT.out, HR, HO.out, HM.out, HBB.out⟩
          case measure => simp [intOf]; omega
      obtain rfl : j = n := by omega
      have hqR : M.take q = R := by rw [hMF, HFE.out]
      have hqn : R.length = q := by rw [← hqR, List.length_take]; omega
      obtain ⟨u, hsl, w6, M2, hcl, hM2l, hM2t, hh6, hg6⟩ := clear_from w5 g j q M hMl hq hl (heap_of_owns ho)
      have hsl2 := fun W => slN_to W g j q hq hl
      have HR6 : Hid (w6.ownsRow (bm + 1) 70 2 (.slice (some ⟨g, 0, none⟩) q j) R.length (blC R)) := by
        have h := owns_of_heap (ho.lt g rfl).1 hq hl hM2l hh6
        rw [hM2t, hqR] at h
        rwa [hqn]
      have HB6 := Lib.hid (hb5.grown hg6 (by omega) (fun i h => by have e : g = i := Option.some.inj h; omega))
      clear hMF hqR ho hm hb5 hh6 hg6 hM2t hM2l hrest hMl
      go_wp2
      go_ret
      have hbm := HBM.out (Below.refl _ _)
      exact ⟨_, rfl, owns_base HR6.out (by omega), by have h := HB6.out; rw [hbm] at h; exact h⟩
set_option maxHeartbeats 1000000 in
set_option maxRecDepth 100000 in
theorem implDrop_any (va vd : Value) (l : List Bl) (ds : List Int) (w : World) (ha : RdB w va l) (hd : Rd w vd (cellsInt64S ds)) (hl : l.length ≤ 1048576) (hs : ∀ p ∈ l, p.2.size ≤ 1048576) (hld : ds.length ≤ 1048576) (hdw : ∀ d ∈ ds, In64 d) :
    Calls Try.prog 52 #[va, vd] w fun e w' => ∃ v, e = .returned v ∧ w'.ownsRow w.heap.size 70 2 v (dropT l ds).length (blC (dropT l ds)) ∧ Below w.heap.size w w' := by
  have hso := implStoreOk_any va l w ha (by omega) hs
  have HW : Hid (storeB l = true → ∀ w', Below w.heap.size w w' → Calls Try.prog 122 #[va, vd] w' fun e w'' => ∃ v, e = .returned v ∧ w''.ownsRow w'.heap.size 70 2 v (l.filter fun p => !(ds.contains p.1)).length (blC (l.filter fun p => !(ds.contains p.1))) ∧ Below w'.heap.size w' w'') := fun hok w' h => without_any va vd l ds w' (rdB_below ha h) (rd_below hd h) hl hs hld hdw (fun p hp => by
    have h1 := ((storeB_iff.1 hok).2.1 p hp).2
    have h2 := digest_in p.2
    show -9223372036854775808 ≤ p.1 ∧ p.1 ≤ 9223372036854775807
    rw [h1]
    omega)
  have HG0 : Hid (storeB l = false → dropT l ds = []) := fun h => by unfold dropT; rw [h]; rfl
  have HG1 : Hid (storeB l = true → dropT l ds = l.filter fun p => !(ds.contains p.1)) := fun h => by unfold dropT; rw [if_pos h]
  generalize dropT l ds = R at HG0 HG1 ⊢
  obtain ⟨aol, capl, hval⟩ := rdB_shape ha
  obtain ⟨aod, capd, hvd⟩ := rd_shape hd
  generalize l.length = nl at hval
  generalize (cellsInt64S ds).length = nd at hvd
  cases hok : storeB l with
  | false =>
    have HR := HG0.out hok
    subst HR
    rw [hok] at hso
    clear HG0 HG1 HW hok ha hs hd
    subst hval
    subst hvd
    go_enter Try.func52, Try.ntmps52
    go_wp2_with fail
    refine hso.mono ?_
    rintro e w9 ⟨rfl, hb9⟩
    clear hso
    go_wp2
    go_ret
    exact ⟨_, rfl, World.ownsRow_nil _ _ _ _, hb9⟩
  | true =>
    have HR := HG1.out hok
    have HW := Lib.hid (HW.out hok)
    rw [← HR] at HW
    rw [hok] at hso
    clear HG0 HG1 hok ha hs hd HR hdw
    subst hval
    subst hvd
    go_enter Try.func52, Try.ntmps52
    go_wp2_with fail
    refine hso.mono ?_
    rintro e w9 ⟨rfl, hb9⟩
    have hcall := HW.out w9 hb9
    clear hso
    go_wp2_with fail
    refine hcall.mono ?_
    rintro e w8 ⟨v, rfl, ho, hb8⟩
    have hb7 := hb9.trans (hb8.mono hb9.size)
    have ho7 := owns_base ho hb9.size
    clear hcall
    go_wp2
    go_ret
    exact ⟨_, rfl, ho7, hb7⟩
end Go.Proofs.Ytfoncmeplofedab
