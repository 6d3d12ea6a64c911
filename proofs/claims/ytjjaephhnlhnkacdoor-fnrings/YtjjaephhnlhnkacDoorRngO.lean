/- CONTRACTS: the program's Owners, Owner: the dots from a place on, gone through by a set that grows. -/
import Derived.Test.YtjjaephhnlhnkacDoorRngB
import Derived.Test.YtjjaephhnlhnkacDoorNDtF
import Derived.Test.YtjjaephhnlhnkacDoorNumAdd
import Derived.Test.YtjjaephhnlhnkacDoorQue
namespace Go.Proofs.YtjjaephhnlhnkacDoor
open Go.RowKit Go.Maps
set_option linter.unusedVariables false
/-- where the walk begins: what lies from the place on, then what lies ahead of it -/
theorem plc_rot {l : List Dt} (hr : RingP l) {m : Int} {k : Nat} {fd : Bool} (h : PlcN (fun j => (l.getD j dt0).1) l.length m k fd) : k ≤ l.length ∧ l.drop k ++ l.take k = rotL l m := by
  obtain ⟨h0, h1, h2, _⟩ := h
  refine ⟨h0, ?_⟩
  rcases Nat.lt_or_ge k l.length with g | g
  · exact (first_rot hr.2.2 ⟨g, Or.inl ⟨h2 k (Nat.le_refl _) g, h1⟩⟩).symm
  · obtain rfl : k = l.length := by omega
    rw [rot_none h1]
    simp
set_option maxHeartbeats 4000000 in
set_option maxRecDepth 100000 in
theorem implOwners_any (va : Value) (l : List Dt) (key n : Int) (w : World) (ha : RdG dtf 2 w va l) (hl : l.length ≤ 1048576) :
    Calls Tryd.prog 8 #[va, .int .i64 key, .int .i64 n] w fun e w' => ∃ v, e = .returned v ∧ w'.ownsRow w.heap.size 2 1 v (ownersT l key n).length (cellsInt64S (ownersT l key n)) ∧ Below w.heap.size w w' := by
  have hmm := @run_makeMap Tryd.prog
  have hok := implRingOk_any va l w ha hl
  by_cases hr : RingP l
  rotate_left
  focus
    rw [decide_eq_false hr] at hok
    have e : ownersT l key n = [] := by unfold ownersT; rw [if_neg (fun h => hr h.1)]
    rw [e]
    obtain ⟨ao, cap, rfl⟩ := rdG_shape ha
    clear e ha
    go_enter Tryd.func8, Tryd.ntmps8
    go_wp2_with fail
    refine hok.mono ?_
    rintro e w2 ⟨rfl, hb2⟩
    clear hok
    go_wp2
    go_ret
    exact ⟨_, rfl, World.ownsRow_nil _ _ _ _, hb2⟩
  rw [decide_eq_true hr] at hok
  by_cases hk : 0 ≤ key
  rotate_left
  focus
    have e : ownersT l key n = [] := by unfold ownersT; rw [if_neg (fun h => hk h.2.1)]
    rw [e]
    have hI : key < 0 := by omega
    obtain ⟨ao, cap, rfl⟩ := rdG_shape ha
    clear e ha hk
    go_enter Tryd.func8, Tryd.ntmps8
    go_wp2_with fail
    refine hok.mono ?_
    rintro e w2 ⟨rfl, hb2⟩
    clear hok
    go_wp2
    go_ret
    exact ⟨_, rfl, World.ownsRow_nil _ _ _ _, hb2⟩
  have hkn : ¬ key < 0 := by omega
  by_cases hn1 : n < 1
  focus
    have e : ownersT l key n = [] := by unfold ownersT; rw [if_neg (fun h => by have := h.2.2; omega)]
    rw [e]
    obtain ⟨ao, cap, rfl⟩ := rdG_shape ha
    clear e ha hk
    go_enter Tryd.func8, Tryd.ntmps8
    go_wp2_with fail
    refine hok.mono ?_
    rintro e w2 ⟨rfl, hb2⟩
    clear hok
    go_wp2
    go_ret
    exact ⟨_, rfl, World.ownsRow_nil _ _ _ _, hb2⟩
  have e : ownersT l key n = (distK ((rotL l (key % 65536)).map (·.2)) []).take n.toNat := by unfold ownersT; rw [if_pos ⟨hr, hk, by omega⟩]
  have hpos : 0 < l.length := by have := hr.1.1; omega
  have hl128 : l.length ≤ 128 := hr.1.2
  have htg := dtY.ty dtW
  have HP := Lib.hid (fun (W : World) (h : Below w.heap.size w W) => placeDt_any va l (key % 65536) W (rdG_below ha h) hl (ring_rise hr))
  obtain ⟨G, hG⟩ : ∃ G, G = rotL l (key % 65536) := ⟨_, rfl⟩
  have hGl : G.length = l.length := by rw [hG, rot_len]
  have HPR : Hid (∀ k fd, PlcN (fun j => (l.getD j dt0).1) l.length (key % 65536) k fd → k ≤ l.length ∧ l.drop k ++ l.take k = G) := fun k fd h => by rw [hG]; exact plc_rot hr h
  have hG64 : Hid (∀ j, j < G.length → -9223372036854775808 ≤ (G.getD j dt0).2 ∧ (G.getD j dt0).2 ≤ 9223372036854775807) := fun j hj => by
    rw [getD_dt hj]
    have hm : G[j] ∈ l := by
      have h9 := List.getElem_mem hj
      have hp := rot_perm l (key % 65536)
      rw [← hG] at hp
      exact hp.mem_iff.1 h9
    have h8 := (hr.2.1 _ hm).2
    omega
  have HSL := Lib.hid (fun (W : World) (h : Below w.heap.size w W) (m : Nat) (hm : m ≤ l.length) => And.intro (rd_fromR htg (rdG_below ha h) m hm (by omega)) (rd_toR htg (rdG_below ha h) m hm (by omega)))
  obtain ⟨C, hC⟩ : ∃ C : List Int, C = G.map (·.2) := ⟨_, rfl⟩
  have hCl : C.length = l.length := by rw [hC, List.length_map, hGl]
  have HCG : Hid (∀ j, j < l.length → C.getD j 0 = (G.getD j dt0).2) := fun j hj => by
    have e9 : (G.map (·.2)).getD j 0 = (G.getD j dt0).2 := by
      rw [getD_dt (by omega)]
      exact getD_snd (by omega)
    rw [hC]; exact e9
  rw [← hG, ← hC] at e
  have HR0 : Hid (distK (C.drop 0) [] = distK C []) := by show _ = _; rw [List.drop_zero]
  have HEND : Hid (∀ H R, distK (C.drop l.length) H = R → H = R) := fun H R h => by
    rw [← hCl, List.drop_length] at h
    exact h
  have HOLD : Hid (∀ i H R, i < l.length → C.getD i 0 ∈ H → distK (C.drop i) H = R → distK (C.drop (i + 1)) H = R) := fun i H R hi hm h => by
    rw [drop_getD C i (by omega), distK_old hm] at h
    exact h
  have HNEW : Hid (∀ i H R, i < l.length → C.getD i 0 ∉ H → distK (C.drop i) H = R → distK (C.drop (i + 1)) (H ++ [C.getD i 0]) = R) := fun i H R hi hm h => by
    rw [drop_getD C i (by omega), distK_new hm] at h
    exact h
  have HTK : Hid (∀ k H, distK (C.drop k) H = distK C [] → (distK C []).take H.length = H) := fun k H h => by rw [← h]; exact dist_keep _ _
  rw [e]
  generalize distK C [] = R0 at HR0 HTK ⊢
  obtain ⟨cn, hcn⟩ : ∃ cn : Nat, n = (cn : Int) := ⟨n.toNat, by omega⟩
  have hct : n.toNat = cn := by omega
  rw [hct]
  subst hcn
  have hcn1 : 1 ≤ cn := by omega
  obtain ⟨DD, hDD⟩ : ∃ DD, DD = R0.take cn := ⟨_, rfl⟩
  have HTK2 : Hid (∀ k H, distK (C.drop k) H = R0 → H.length = cn → DD = H) := fun k H h h2 => by rw [hDD, ← h2]; exact HTK.out k H h
  have HEND2 : Hid (∀ H, distK (C.drop l.length) H = R0 → H.length ≤ cn → DD = H) := fun H h h2 => by rw [hDD, ← HEND.out H R0 h, List.take_of_length_le h2]
  rw [← hDD]
  clear hDD HTK HEND
  have HCC := Lib.hid (fun (q : Nat) (v1 v2 : Value) (k : Nat) (W : World) (h1 : RdG dtf 2 W v1 (l.drop k)) (h2 : RdG dtf 2 W v2 (l.take k)) (hk : k ≤ l.length) (c1 : W.cell? ⟨q, 0, none⟩ = some v1) (c2 : W.cell? ⟨q, 1, none⟩ = some v2) (hq : q < W.heap.size) => concatD_any q v1 v2 (l.drop k) (l.take k) W h1 h2 (by rw [List.length_drop, List.length_take]; omega) (by rw [List.length_drop, List.length_take]; omega) c1 c2 hq)
  obtain ⟨ao, cap, hva⟩ := rdG_shape ha
  obtain ⟨L, hL⟩ : ∃ L, L = l.length := ⟨_, rfl⟩
  have HGL : Hid (G.length = L) := by rw [hL]; exact hGl
  rw [hGl] at hG64
  rw [← hL] at hpos hl hl128 HP HPR HSL HCG hG64 HEND2 HOLD HNEW HCC hva
  have hok2 := hok
  subst hva
  clear hok e ha hC hCl hL hct hr hG hGl htg hn1
  have hkm : 0 ≤ key % 65536 := by omega
  go_enter Tryd.func8, Tryd.ntmps8
  go_wp2_with fail
  refine hok2.mono ?_
  rintro e w2 ⟨rfl, hb2⟩
  have hcall := HP.out w2 hb2
  clear hok2
  go_wp2_with fail
  refine hcall.mono ?_
  rintro e w3 ⟨m, fd, rfl, hpl, hb3⟩
  obtain ⟨hmL, hmG⟩ := HPR.out m fd hpl
  have hB3 := hb2.trans (hb3.mono hb2.size)
  have hs3 := hB3.size
  clear hcall hb2 hb3 hpl HP HPR
  have hB0 := hB3.alloc hs3 (.map #[] 0)
  have hM0 : SetM w3.heap.size 0 (.map []) (w3.alloc (.map #[] 0)) := World.ownsMap_made _ _ _ _
  have hs4 : w3.heap.size < (w3.alloc (.map #[] 0)).heap.size := by rw [World.size_alloc]; omega
  go_wp2
  obtain ⟨bm, hbm⟩ : ∃ bm, bm = w3.heap.size := ⟨_, rfl⟩
  obtain ⟨w4, hw4⟩ : ∃ w4, w4 = w3.alloc (.map #[] 0) := ⟨_, rfl⟩
  rw [← hbm] at hM0 hs4
  rw [← hw4] at hM0 hB0 hs4 ⊢
  rw [← hbm]
  have hbmw : w.heap.size ≤ bm := by omega
  clear hbm hw4 hB3 hs3
  obtain ⟨⟨u1, hs1, hr1⟩, ⟨u2, hs2, hr2⟩⟩ := HSL.out w4 hB0 m hmL
  obtain ⟨a1, n1, p1, hu1⟩ : ∃ a1 n1 p1, u1 = .slice a1 n1 p1 := by obtain ⟨a, c, h⟩ := rdG_shape hr1; exact ⟨a, _, c, h⟩
  obtain ⟨a2, n2, p2, hu2⟩ : ∃ a2 n2 p2, u2 = .slice a2 n2 p2 := by obtain ⟨a, c, h⟩ := rdG_shape hr2; exact ⟨a, _, c, h⟩
  subst hu1
  subst hu2
  have hbx := heap_alloc_new w4 (.cells #[.slice a1 n1 p1, .slice a2 n2 p2] 24)
  have HCON : Hid (∀ W : World, W = (w4.alloc (.cells #[.slice a1 n1 p1, .slice a2 n2 p2] 24)).drew → Calls Tryd.prog 28 #[.slice (some ⟨w4.heap.size, 0, none⟩) 2 2] W fun e w' => ∃ ag cg, e = .returned (.slice ag L cg) ∧ OwnD w' W.heap.size (.slice ag L cg) G ∧ Below w4.heap.size w4 w') := fun W hW => by
    have hB : Below w4.heap.size w4 W := by rw [hW]; exact ((Below.refl _ _).alloc (Nat.le_refl _) _).drew
    have hh : W.heap[w4.heap.size]? = some (.cells #[.slice a1 n1 p1, .slice a2 n2 p2] 24 (0, 0)) := by rw [hW]; exact hbx
    have hc := HCC.out w4.heap.size _ _ m W (rdG_below hr1 hB) (rdG_below hr2 hB) hmL (cell_of_row W w4.heap.size 0 _ _ (0, 0) hh) (cell_of_row W w4.heap.size 1 _ _ (0, 0) hh) (by rw [hW]; show _ < (w4.alloc _).heap.size; rw [World.size_alloc]; omega)
    rw [hmG] at hc
    refine hc.mono ?_
    rintro e w' ⟨v, rfl, ho, hb⟩
    obtain ⟨ag, cg, hvg⟩ := ownG_shape ho
    rw [HGL.out] at hvg
    subst hvg
    exact ⟨ag, cg, rfl, ho, hB.trans (hb.mono hB.size)⟩
  have hWs : w4.heap.size ≤ ((w4.alloc (.cells #[.slice a1 n1 p1, .slice a2 n2 p2] 24)).drew).heap.size := by show _ ≤ (w4.alloc _).heap.size; rw [World.size_alloc]; omega
  clear hbx HCC HSL hr1 hr2 hmG
  go_region_held (fun _ : World => True) (exact trivial) (first | (go_at_call 28; refine (HCON.out _ rfl).mono ?_; rintro e w5 ⟨ag, cg, rfl, hog, hb5⟩))
  all_goals
    have hB5 := hB0.trans (hb5.mono (hB0.size))
    have hM5 := setM_below hM0 hb5
    have hz5 := hb5.size
    have ho5 := owns_base hog hWs
    have hbm4 : bm < w4.heap.size := hs4
    have HA : Hid (∀ j, j < L → ∀ W, w5.grownBy W (some bm) → ∃ g, ag = some ⟨g, 0, none⟩ ∧ W.cell? ⟨g, j * 2, none⟩ = some (.int .i64 (G.getD j dt0).1) ∧ W.cell? ⟨g, j * 2 + 1, none⟩ = some (.int .i64 (G.getD j dt0).2)) := fun j hj W hW => by
      have hgl := HGL.out
      rcases ownG_cases dtW ho5 with ⟨h9, _⟩ | ⟨g, cap9, cur9, h9, hBg, hg5, _, _, hh5, _, _, h8⟩
      · rw [h9] at hgl; simp at hgl; omega
      · simp only [Value.slice.injEq] at h9
        obtain ⟨d0, d1⟩ := dt_cells0 h8 (j := j) (by omega)
        have hW5 : W.heap[g]? = some (.cells cur9 51 (0, 0)) := (hW.block g hg5 (fun e => by have := Option.some.inj e; omega)).trans hh5
        rw [cell_of_row w5 g _ _ _ (0, 0) hh5] at d0 d1
        exact ⟨g, h9.1, (cell_of_row W g _ _ _ (0, 0) hW5).trans d0, (cell_of_row W g _ _ _ (0, 0) hW5).trans d1⟩
    have hbm5 : bm < w5.heap.size := by omega
    have HB5 : Hid (∀ W, w5.grownBy W (some bm) → Below w.heap.size w W) := fun W hW => hB5.grown hW hB5.size (fun k hk => by cases hk; exact hbmw)
    have hg0 := World.grownBy.refl w5 (some bm)
    clear hog ho5 hb5 hB0 hM0 HCON hWs hB5
    go_wp2
    go_loopw [9, 41] (fun v9 v41 wr => ∃ (k : Nat) (H : List Int) (D : DataW Unit), v41 = .int .i64 (k : Int) ∧ k ≤ L ∧ H.length ≤ k ∧ H.length < cn ∧ SetM bm k D wr ∧ Hid (Has D H) ∧ Hid (distK (C.drop k) H = R0) ∧ wr.ownsRow w5.heap.size 2 1 v9 H.length (cellsInt64S H) ∧ w5.grownBy wr (some bm)) (fun _ k _ => L - (intOf k).toNat)
    case atStart => exact ⟨0, [], _, rfl, Nat.zero_le _, Nat.le_refl _, hcn1, hM5, has_start, HR0, World.ownsRow_nil _ _ _ _, hg0⟩
    case round =>
      rename World => wr
      obtain ⟨k, H, D, rfl, hk9, hHl, hHc, hm, hhas, hM, ho, hg⟩ := hrel
      clear hM5 HR0 hg0
      have hsb := hg.size
      by_cases hltk : k < L
      rotate_left
      · have HE : Hid (DD = H) := HEND2.out H (by have h6 := hM.out; rw [show k = L by omega] at h6; exact h6) (by omega)
        have HB := Lib.hid (HB5.out wr hg)
        have he := HE.out
        clear HE
        subst he
        have HO := Lib.hid (owns_base ho (show w.heap.size ≤ w5.heap.size by omega))
        clear ho hM hhas hm
        go_wp2
        go_ret
        exact ⟨_, rfl, HO.out, HB.out⟩
      obtain ⟨g, rfl, c0, c1⟩ := HA.out k hltk wr hg
      have hq64 := hG64.out k hltk
      have hCk := HCG.out k hltk
      have HHI := Lib.hid (fun h => HOLD.out k H R0 hltk h hM.out)
      have HNE := Lib.hid (fun h => HNEW.out k H R0 hltk h hM.out)
      rw [hCk] at HHI HNE
      obtain ⟨y, hy⟩ : ∃ y, y = G.getD k dt0 := ⟨_, rfl⟩
      rw [← hy] at c0 c1 hq64 HHI HNE
      obtain ⟨y1, q⟩ := y
      simp only at c0 c1 hq64 HHI HNE
      have hltI : (k : Int) < (L : Int) := by omega
      clear hy hCk hM
      have ba : Below wr.heap.size wr (wr.alloc (.cells #[.int .i64 y1, .int .i64 q] 51)) := (Below.refl _ _).alloc (Nat.le_refl _) _
      have hbx := heap_alloc_new wr (.cells #[.int .i64 y1, .int .i64 q] 51)
      have hm1 := setM_below hm ba
      have ho1 := owns_below ho ba
      have hg1 : w5.grownBy (wr.alloc (.cells #[.int .i64 y1, .int .i64 q] 51)) (some bm) := grown_into hg (grown_of_below ba) (fun j h => by cases h)
      have hcall := add_any bm k D q _ hq64 hm1 (by omega)
      have hh := hhas.out q
      have hmp := World.ownsMap.isMap hm
      have hszA : (wr.alloc (.cells #[.int .i64 y1, .int .i64 q] 51)).heap.size = wr.heap.size + 1 := by rw [World.size_alloc]
      rw [hh] at hcall
      by_cases hmem : q ∈ H
      · have hcn : H.contains q = true := by simpa using hmem
        rw [hcn] at hcall
        have HH2 : Hid (Has (D.put (.int .i64 q) unitD) H) := has_again hhas.out hmp hcn
        have HM2 := Lib.hid (HHI.out hmem)
        have hne : ¬ (H.length : Int) = (cn : Int) := by omega
        have hneb : ((H.length : Int) == (cn : Int)) = false := by simp [hne]
        clear HHI HNE hcn hmem hh hhas hmp hm ho hg ba
        go_wp2_with fail
        refine hcall.mono ?_
        rintro e w7 ⟨rfl, hM7, hg7⟩
        have hG7 := grown_into hg1 hg7 (fun j h => Or.inl h)
        have HO7 := Lib.hid (owns_grown ho1 hg7 (fun y hy e => by cases hy; have := (ho1.lt _ e).1; omega))
        obtain ⟨av, cv, hvv⟩ := owns_slice HO7.out
        have hz7 := hg7.size
        clear hcall hg7 hm1 ho1 hg1 hbx c0 c1
        subst hvv
        go_wp2
        go_roundw
        case rel => exact ⟨k + 1, H, _, by go_num, by omega, by omega, hHc, hM7, HH2, HM2, HO7.out, hG7⟩
        case measure => simp [intOf]; omega
      · have hcn : H.contains q = false := by
          cases e : H.contains q with
          | false => rfl
          | true => exact absurd (by simpa using e) hmem
        rw [hcn] at hcall
        have HH2 : Hid (Has (D.put (.int .i64 q) unitD) (H ++ [q])) := has_more hhas.out hmp q
        have HM2 := Lib.hid (HNE.out hmem)
        clear HHI HNE hcn hmem hh hhas hmp hm ho hg ba
        go_wp2_with fail
        refine hcall.mono ?_
        rintro e w7 ⟨rfl, hM7, hg7⟩
        have hG7 := grown_into hg1 hg7 (fun j h => Or.inl h)
        have ho7 := owns_grown ho1 hg7 (fun y hy e => by cases hy; have := (ho1.lt _ e).1; omega)
        have hz7 := hg7.size
        have hbx7 := (hg7.block wr.heap.size (by omega) (fun e => by have := Option.some.inj e; omega)).trans hbx
        have e1 := cell_of_row w7 wr.heap.size 1 _ _ (0, 0) hbx7
        have hra := (World.ownsRow_lit (base := w7.heap.size) (e := 2) (size := 1) w7 #[.int .i64 q] 1 (Nat.le_refl _) (by unfold maxLen; omega) rfl : (w7.alloc (.cells #[.int .i64 q] 2)).ownsRow w7.heap.size 2 1 (.slice (some ⟨w7.heap.size, 0, none⟩) 1 1) 1 (cellsInt64S [q]))
        have hoa := ho7.alloc (.cells #[.int .i64 q] 2)
        have hma := setM_below hM7 ((Below.refl w7.heap.size w7).alloc (Nat.le_refl _) (.cells #[.int .i64 q] 2))
        have hga := grown_into hG7 (grown_of_below ((Below.refl w7.heap.size w7).alloc (Nat.le_refl _) (.cells #[.int .i64 q] 2))) (fun j h => by cases h)
        have hrq := rd_owns hra
        have hln : H.length + [q].length ≤ 16777216 := by simp; omega
        have hsA : w5.heap.size ≤ (w7.alloc (.cells #[.int .i64 q] 2)).heap.size := hga.size
        clear hcall hg7 hm1 ho1 hg1 hbx hbx7 c0 c1 ho7 hra hM7 hG7
        go_wp2_with (at_builtin; refine own_step rfl _ _ rfl w5.heap.size _ (.slice (some ⟨w7.heap.size, 0, none⟩) 1 1) H [q] rfl rfl hoa hrq hln hsA ?_)
        intro v20 w20 ho20 hg20 hi20
        have hG20 := grown_into hga hg20 (fun j h => Or.inr (hoa.lt j h).1)
        have hM20 := setM_grown hma hg20 (fun e => by have h9 := (hoa.lt bm e.symm).1; omega)
        have ho21 : w20.ownsRow w5.heap.size 2 1 v20 (H ++ [q]).length (cellsInt64S (H ++ [q])) := by simpa using ho20
        have HO20 := Lib.hid ho21
        clear ho21
        obtain ⟨av, cv, hvv⟩ := owns_slice HO20.out
        have hHl2 : (H ++ [q]).length = H.length + 1 := by simp
        by_cases heq : H.length + 1 = cn
        · have HE : Hid (DD = H ++ [q]) := HTK2.out (k + 1) (H ++ [q]) HM2.out (by rw [hHl2]; exact heq)
          have HB := Lib.hid (HB5.out _ hG20)
          have HO : Hid (w20.ownsRow w.heap.size 2 1 v20 DD.length (cellsInt64S DD)) := by show World.ownsRow _ _ _ _ _ _ _; rw [HE.out]; exact owns_base HO20.out (by omega)
          have heI : ((H.length : Int) + 1) = (cn : Int) := by omega
          rw [hHl2] at hvv
          clear HE ho20 hg20 hi20 hoa hma hga hrq hln HM2 HH2 hG20 hM20 HO20 hHl2 hsA
          subst hvv
          go_wp2
          go_ret
          exact ⟨_, rfl, HO.out, HB.out⟩
        · have hne : ¬ ((H.length : Int) + 1) = (cn : Int) := by omega
          have hneb : (((H.length : Int) + 1) == (cn : Int)) = false := by simp [hne]
          rw [hHl2] at hvv
          clear ho20 hg20 hi20 hoa hma hga hrq hln
          subst hvv
          go_wp2
          go_roundw
          case rel => exact ⟨k + 1, H ++ [q], _, by go_num, by omega, by omega, by omega, hM20, HH2, HM2, HO20.out, hG20⟩
          case measure => simp [intOf]; omega
theorem owners_one (l : List Dt) (key : Int) : ownersT l key 1 = if RingP l ∧ 0 ≤ key then [ownT l key] else [] := by
  by_cases h : RingP l ∧ 0 ≤ key
  · rw [if_pos h]
    unfold ownersT ownT
    rw [if_pos ⟨h.1, h.2, by omega⟩, if_pos h]
    have hl := rot_len l (key % 65536)
    have hp := h.1.1.1
    cases hR : rotL l (key % 65536) with
    | nil => rw [hR] at hl; simp at hl; omega
    | cons q t =>
      rw [List.map_cons, distK_new (by simp), List.nil_append]
      exact dist_keep _ [q.2]
  · rw [if_neg h]
    unfold ownersT
    rw [if_neg (fun g => h ⟨g.1, g.2.1⟩)]
set_option maxHeartbeats 1000000 in
theorem implOwner_any (va : Value) (l : List Dt) (key : Int) (w : World) (ha : RdG dtf 2 w va l) (hl : l.length ≤ 1048576) :
    Calls Tryd.prog 6 #[va, .int .i64 key] w fun e w' => e = .returned (.int .i64 (ownT l key)) ∧ Below w.heap.size w w' := by
  have hcall := implOwners_any va l key 1 w ha hl
  rw [owners_one] at hcall
  obtain ⟨ao, cap, hva⟩ := rdG_shape ha
  generalize l.length = n at hva
  subst hva
  by_cases h : RingP l ∧ 0 ≤ key
  · rw [if_pos h] at hcall
    generalize ownT l key = R at hcall ⊢
    clear ha hl h
    go_enter Tryd.func6, Tryd.ntmps6
    go_wp2_with fail
    refine hcall.mono ?_
    rintro e w2 ⟨v, rfl, ho, hb⟩
    obtain ⟨g, cap2, hv, c0⟩ : ∃ g cap2, v = .slice (some ⟨g, 0, none⟩) 1 cap2 ∧ w2.cell? ⟨g, 0, none⟩ = some (.int .i64 R) := by
      rcases ho.2 with ⟨_, h0⟩ | ⟨g, cap2, cur, rfl, _⟩
      · simp at h0
      · exact ⟨g, cap2, rfl, ho.cellAt 0 (by simp)⟩
    subst hv
    clear hcall ho
    go_wp2
    go_ret
    exact ⟨rfl, hb⟩
  · have e : ownT l key = -1 := by unfold ownT; rw [if_neg h]
    rw [if_neg h] at hcall
    rw [e]
    clear ha hl h e
    go_enter Tryd.func6, Tryd.ntmps6
    go_wp2_with fail
    refine hcall.mono ?_
    rintro e w2 ⟨v, rfl, ho, hb⟩
    obtain ⟨av, cv, hv⟩ := owns_slice ho
    have hv2 : v = .slice av 0 cv := by simpa using hv
    subst hv2
    clear hcall ho
    go_wp2
    go_ret
    exact ⟨rfl, hb⟩
end Go.Proofs.YtjjaephhnlhnkacDoor
