/- CONTRACT: the program's Missing. -/
import Derived.Test.YtfoncmeplofedabNumSet
import Derived.Test.YtfoncmeplofedabStoM
namespace Go.Proofs.Ytfoncmeplofedab
open Go.RowKit Go.Maps
set_option linter.unusedVariables false
set_option maxHeartbeats 2000000 in
set_option maxRecDepth 100000 in
theorem implMissing_any (va vd : Value) (l : List Bl) (ds : List Int) (w : World) (ha : RdB w va l) (hd : Rd w vd (cellsInt64S ds)) (hl : l.length ≤ 1048576) (hs : ∀ p ∈ l, p.2.size ≤ 1048576) (hld : ds.length ≤ 1048576) (hdw : ∀ d ∈ ds, In64 d) :
    Calls Try.prog 53 #[va, vd] w fun e w' => ∃ v, e = .returned v ∧ w'.ownsRow w.heap.size 2 1 v (missT l ds).length (cellsInt64S (missT l ds)) ∧ Below w.heap.size w w' := by
  obtain ⟨i0, hi, hz0, hz1, hz2⟩ := info_parts Try.info64
  have hso := implStoreOk_any va l w ha (by omega) hs
  have hmm := @run_makeMap Try.prog
  have HG0 : Hid (storeB l = false → missT l ds = []) := fun h => by unfold missT; rw [h]; rfl
  have HG1 : Hid (storeB l = true → missT l ds = missF l ds []) := fun h => by unfold missT; rw [if_pos h]
  generalize missT l ds = R at HG0 HG1 ⊢
  obtain ⟨aol, capl, hval⟩ := rdB_shape ha
  cases hok : storeB l with
  | false =>
    have HR := HG0.out hok
    subst HR
    rw [hok] at hso
    clear HG0 HG1 hok ha hs
    subst hval
    go_enter Try.func53, Try.ntmps53
    go_wp2_with fail
    refine hso.mono ?_
    rintro e w9 ⟨rfl, hb9⟩
    clear hso
    go_wp2
    go_ret
    exact ⟨_, rfl, World.ownsRow_nil _ _ _ _, hb9⟩
  | true =>
    have HR := HG1.out hok
    rw [hok] at hso
    have hri := (storeB_iff.1 hok).2.2
    have HPL : Hid (∀ w' d, Below w.heap.size w w' → Calls Try.prog 119 #[va, .int .i64 d] w' fun e w'' => ∃ (k : Nat) (fd : Bool), e = .returned (.tuple #[.int .i64 (k : Int), .bool fd]) ∧ (fd = false → findB l d = none) ∧ (fd = true → findB l d ≠ none) ∧ Below w'.heap.size w' w'') := fun w' d h => by
      refine (place_any va l d w' (rdB_below ha h) hl hri).mono ?_
      rintro e w'' ⟨k, fd, rfl, hp, hb⟩
      refine ⟨k, fd, rfl, fun h => ?_, fun h => ?_, hb⟩
      · subst h; exact plc_no hri hp
      · subst h; rw [(plc_yes hp).2.2]; simp
    clear HG0 HG1 hok hri
    have hla : (cellsInt64S ds).length = ds.length := by simp
    rcases rd_cases hd with ⟨h0, ao, cap, rfl⟩ | ⟨hp, b, off, cap, rfl, _, hlt, hc⟩
    · have hx : ds = [] := by simpa using h0
      subst hx
      have HRR : R = [] := HR
      subst HRR
      clear HPL ha hs
      subst hval
      go_enter Try.func53, Try.ntmps53
      go_wp2_with fail
      refine hso.mono ?_
      rintro e w9 ⟨rfl, hb9⟩
      clear hso
      go_wp2
      refine wp_loop_rounds 1 ?_
      rw [rounds_succ]
      go_wp2
      go_ret
      exact ⟨_, rfl, World.ownsRow_nil _ _ _ _, by first | exact hb9.alloc hb9.size _ | exact hb9⟩
    rw [hla] at hc hp ⊢
    have HA : Hid (∀ j, j < ds.length → w.cell? ⟨b, off + j, none⟩ = some (.int .i64 (ds.getD j 0))) := fun j hj => (hc j hj).trans (ints_get _ ds j hj)
    have HDW : Hid (∀ j, j < ds.length → In64 (ds.getD j 0)) := fun j hj => by
      have e : ds.getD j 0 = ds[j] := by simp [List.getD, hj]
      rw [e]
      exact hdw _ (List.getElem_mem hj)
    have HST : Hid (∀ k acc, k < ds.length → (findB l (ds.getD k 0) = none ∧ acc.contains (ds.getD k 0) = false → missF l (ds.drop k) acc = missF l (ds.drop (k + 1)) (acc ++ [ds.getD k 0])) ∧ (findB l (ds.getD k 0) ≠ none ∨ acc.contains (ds.getD k 0) = true → missF l (ds.drop k) acc = missF l (ds.drop (k + 1)) acc)) := fun k acc hk => by
      have e : ds.drop k = ds.getD k 0 :: ds.drop (k + 1) := by
        rw [List.drop_eq_getElem_cons hk]
        simp [List.getD, hk]
      rw [e]
      exact ⟨fun h => missF_yes h.1 h.2, fun h => missF_no h⟩
    have HEND : Hid (∀ acc, missF l (ds.drop ds.length) acc = acc) := fun acc => by rw [List.drop_length]; rfl
    have HS0 : Hid (R = missF l (ds.drop 0) []) := HR
    obtain ⟨n, hn⟩ : ∃ n, n = ds.length := ⟨_, rfl⟩
    rw [← hn] at hp hld HA HDW HST HEND ⊢
    clear hc hn hs hla HR hd ha hdw
    obtain ⟨nl, hnl⟩ : ∃ nl, nl = l.length := ⟨_, rfl⟩
    rw [← hnl] at hval
    clear hl hnl
    subst hval
    go_enter Try.func53, Try.ntmps53
    go_wp2_with fail
    refine hso.mono ?_
    rintro e w9 ⟨rfl, hb9⟩
    have hB9 : Below w.heap.size w (w9.alloc (.map #[] 0)) := hb9.alloc hb9.size _
    have hM9 : SetM w9.heap.size 0 (.map []) (w9.alloc (.map #[] 0)) := World.ownsMap_made _ _ _ _
    have hbs := hb9.size
    clear hso hb9
    go_wp2
    obtain ⟨bm, hbm⟩ : ∃ bm, bm = w9.heap.size := ⟨_, rfl⟩
    have hsz9 : (w9.alloc (.map #[] 0)).heap.size = bm + 1 := by rw [World.size_alloc, hbm]
    rw [← hbm] at hM9 hbs ⊢
    go_loopw [5, 17] (fun v i wr => ∃ (k : Nat) (acc : List Int) (D : DataW Unit), k ≤ n ∧ acc.length ≤ k ∧ i = .int .i64 k ∧ wr.ownsRow (bm + 1) 2 1 v acc.length (cellsInt64S acc) ∧ SetM bm k D wr ∧ bm + 1 ≤ wr.heap.size ∧ Hid (Has D acc) ∧ Hid (R = missF l (ds.drop k) acc) ∧ Below w.heap.size w wr) (fun _ i _ => n - (intOf i).toNat)
    case atStart => exact ⟨0, [], _, Nat.zero_le _, Nat.le_refl _, rfl, World.ownsRow_nil _ _ _ _, hM9, by omega, has_start, HS0, hB9⟩
    case round =>
      obtain ⟨k, acc, D, hk, hak, rfl, ho, hm, hbz, hhas, hr, hb⟩ := hrel
      clear hB9 hM9 hsz9 hbm
      by_cases hltk : k < n
      focus
        have c0 := HA.out k hltk
        have hw64 := HDW.out k hltk
        have d0 := (hb.cell (p := ⟨b, off + k, none⟩) hlt).trans c0
        obtain ⟨hyes, hno⟩ := HST.out k acc hltk
        have HY := Lib.hid (fun h => hr.out.trans (hyes h))
        have HN := Lib.hid (fun h => hr.out.trans (hno h))
        obtain ⟨x, hx⟩ : ∃ x, x = ds.getD k 0 := ⟨_, rfl⟩
        rw [← hx] at d0 HY HN hw64
        clear hx c0 hyes hno hr
        have hs1 := hb.size
        have hcall := HPL.out wr x hb
        go_wp2_with fail
        refine hcall.mono ?_
        rintro e w8 ⟨q, fd, rfl, hf0, hf1, hb8⟩
        have hB8 := hb.trans (hb8.mono hs1)
        have hO8 := owns_below ho hb8
        have hM8 := setM_below hm hb8
        have hz8 := hb8.size
        clear hcall hb8 ho hm hb d0
        cases fd with
        | true =>
          have HN2 := Lib.hid (HN.out (Or.inl (hf1 rfl)))
          clear HY HN hf0 hf1
          go_wp2
          go_roundw
          case rel => exact ⟨k + 1, acc, D, by omega, by omega, by go_num, hO8, World.ownsMap.mono hM8 (by omega), by omega, hhas, HN2, hB8⟩
          case measure => simp [intOf]; omega
        | false =>
          have hfn := hf0 rfl
          have hcall2 := add_any bm k D x w8 hw64 hM8 (by omega)
          have hIM := World.ownsMap.isMap hM8
          have hbl : ∀ g, some g = some bm → g = bm := fun g h => by cases h; rfl
          rw [hhas.out x] at hcall2
          cases hcn : acc.contains x with
          | true =>
            rw [hcn] at hcall2
            have HN2 := Lib.hid (HN.out (Or.inr hcn))
            have HH2 : Hid (Has (D.put (.int .i64 x) unitD) acc) := has_again hhas.out hIM hcn
            clear HY HN hf0 hf1 hcn hfn
            go_wp2_with fail
            refine hcall2.mono ?_
            rintro e w7 ⟨rfl, hM7, hg7⟩
            have hB7 : Below w.heap.size w w7 := hB8.grown hg7 hB8.size (fun k hk => by cases hk; exact hbs)
            have hO7 : w7.ownsRow (bm + 1) 2 1 _ acc.length (cellsInt64S acc) := owns_grown hO8 hg7 (fun k hk h => by cases hk; have := (hO8.lt bm h).1; omega)
            have hz7 := hg7.size
            clear hcall2 hg7 hO8 hM8 hB8
            go_wp2
            go_roundw
            case rel => exact ⟨k + 1, acc, _, by omega, by omega, by go_num, hO7, hM7, by omega, HH2, HN2, hB7⟩
            case measure => simp [intOf]; omega
          | false =>
            rw [hcn] at hcall2
            have HY2 := Lib.hid (HY.out ⟨hfn, hcn⟩)
            have HH2 : Hid (Has (D.put (.int .i64 x) unitD) (acc ++ [x])) := has_more hhas.out hIM x
            clear HY HN hf0 hf1 hcn hfn
            go_wp2_with fail
            refine hcall2.mono ?_
            rintro e w7 ⟨rfl, hM7, hg7⟩
            have hB7 : Below w.heap.size w w7 := hB8.grown hg7 hB8.size (fun k hk => by cases hk; exact hbs)
            have hO7 : w7.ownsRow (bm + 1) 2 1 _ acc.length (cellsInt64S acc) := owns_grown hO8 hg7 (fun k hk h => by cases hk; have := (hO8.lt bm h).1; omega)
            have hz7 := hg7.size
            clear hcall2 hg7 hO8 hM8 hB8
            go_wp2_with (at_builtin; refine wpList_append_own _ rfl _ _ 28 rfl (bm + 1) 2 i0 (.int .i64 0) 1 8 Try.underlying28 hi hz0 hz1 hz2 rfl (by decide) _ _ _ rfl (hO7.alloc _) ⟨w7.heap.size, 0, none⟩ 1 1 [.int .i64 x] rfl rfl (one_cell w7 .i64 _ _) (ints_oneCell .i64 [x]) (by unfold maxLen; omega) (by omega) (by rw [World.size_alloc]; omega) ?_)
            intro v3 w3 ho3 hg3 _
            have hvl := fun g h => (hO7.lt g h).1
            have hb3 : Below w.heap.size w w3 := (hB7.alloc (by have := hB7.size; omega) _).grown hg3 (by have := hB7.size; simp; omega) (fun k hk => by have := hvl k hk; omega)
            have hm3 : SetM bm (k + 1) (D.put (.int .i64 x) unitD) w3 := setM_grown (World.ownsMap.alloc hM7 _) hg3 (fun h => by have := hvl bm h.symm; omega)
            have hz3 := hg3.size
            rw [World.size_alloc] at hz3
            have ho4 : w3.ownsRow (bm + 1) 2 1 v3 (acc ++ [x]).length (cellsInt64S (acc ++ [x])) := by simpa using ho3
            clear ho3 hg3 hO7 hB7 hM7
            go_wp2
            go_roundw
            case rel => exact ⟨k + 1, acc ++ [x], _, by omega, by simp; omega, by go_num, ho4, hm3, by omega, HH2, HY2, hb3⟩
            case measure => simp [intOf]; omega
      obtain rfl : k = n := by omega
      have HRR : R = acc := by rw [hr.out, HEND.out]
      subst HRR
      go_wp2
      go_ret
      exact ⟨_, rfl, owns_base ho (by omega), hb⟩
end Go.Proofs.Ytfoncmeplofedab
