/- CONTRACT: the specification's Missing. -/
import Derived.Test.YtfoncmeplofedabStoI
namespace Go.Proofs.Ytfoncmeplofedab
open Go.RowKit
set_option linter.unusedVariables false
theorem missF_yes {l : List Bl} {d : Int} {r acc : List Int} (h1 : findB l d = none) (h2 : acc.contains d = false) : missF l (d :: r) acc = missF l r (acc ++ [d]) := by
  rw [missF, h1, h2]; rfl
theorem missF_no {l : List Bl} {d : Int} {r acc : List Int} (h : findB l d ≠ none ∨ acc.contains d = true) : missF l (d :: r) acc = missF l r acc := by
  rw [missF]
  rcases h with h | h
  · cases hf : findB l d with
    | none => exact absurd hf h
    | some p => rfl
  · rw [h]; simp
set_option maxHeartbeats 1000000 in
set_option maxRecDepth 100000 in
theorem specMissing_any (va vd : Value) (l : List Bl) (ds : List Int) (w : World) (ha : RdB w va l) (hd : Rd w vd (cellsInt64S ds)) (hl : l.length ≤ 1048576) (hs : ∀ p ∈ l, p.2.size ≤ 1048576) (hld : ds.length ≤ 1048576) :
    Calls Try.prog 59 #[va, vd] w fun e w' => ∃ v, e = .returned v ∧ w'.ownsRow w.heap.size 2 1 v (missT l ds).length (cellsInt64S (missT l ds)) ∧ Below w.heap.size w w' := by
  obtain ⟨i0, hi, hz0, hz1, hz2⟩ := info_parts Try.info64
  have hso := fun w' h => specStoreOk_any va l w' h (by omega) hs
  have hfi := fun w' d h => l7Find_any va l d w' h (by omega)
  have hhas := fun w' v (xs : List Int) x h hx => l1Has_any v xs x w' h hx
  have HG0 : Hid (storeB l = false → missT l ds = []) := fun h => by unfold missT; rw [h]; rfl
  have HG1 : Hid (storeB l = true → missT l ds = missF l ds []) := fun h => by unfold missT; rw [if_pos h]
  generalize missT l ds = R at HG0 HG1 ⊢
  have hB0 := (Below.refl w.heap.size w).alloc (Nat.le_refl _) (.cells #[] 2)
  have ho0 : (w.alloc (.cells #[] 2)).ownsRow w.heap.size 2 1 (.slice (some ⟨w.heap.size, 0, none⟩) 0 0) 0 (cellsInt64S []) := World.ownsRow_lit (base := w.heap.size) (e := 2) (size := 1) w #[] 0 (Nat.le_refl _) (Nat.zero_le _) rfl
  have ha1 := rdB_below ha hB0
  cases hok : storeB l with
  | false =>
    have HR := HG0.out hok
    subst HR
    rw [hok] at hso
    clear HG0 HG1 hok
    obtain ⟨ao, cap, rfl⟩ := rdB_shape ha
    go_enter Try.func59, Try.ntmps59
    go_wp2_with fail
    refine (hso _ ha1).mono ?_
    rintro e w9 ⟨rfl, hb9⟩
    have HB9 := Lib.hid (hB0.trans (hb9.mono hB0.size))
    have HO9 := Lib.hid (owns_below ho0 hb9)
    clear hb9 hB0 ho0
    go_wp2
    go_ret
    exact ⟨_, rfl, HO9.out, HB9.out⟩
  | true =>
    have HR := HG1.out hok
    rw [hok] at hso
    clear HG0 HG1 hok
    have hla : (cellsInt64S ds).length = ds.length := by simp
    rcases rd_cases hd with ⟨h0, ao, cap, rfl⟩ | ⟨hp, b, off, cap, rfl, _, hlt, hc⟩
    · have hx : ds = [] := by simpa using h0
      subst hx
      have HRR : R = [] := HR
      subst HRR
      go_enter Try.func59, Try.ntmps59
      go_wp2_with fail
      refine (hso _ ha1).mono ?_
      rintro e w9 ⟨rfl, hb9⟩
      have HB9 := Lib.hid (hB0.trans (hb9.mono hB0.size))
      have HO9 := Lib.hid (owns_below ho0 hb9)
      clear hb9 hB0 ho0
      go_wp2
      refine wp_loop_rounds 1 ?_
      rw [rounds_succ]
      go_wp2
      go_ret
      exact ⟨_, rfl, HO9.out, HB9.out⟩
    rw [hla] at hc hp ⊢
    have HA : Hid (∀ j, j < ds.length → w.cell? ⟨b, off + j, none⟩ = some (.int .i64 (ds.getD j 0))) := fun j hj => (hc j hj).trans (ints_get _ ds j hj)
    have HST : Hid (∀ k acc, k < ds.length → (findB l (ds.getD k 0) = none ∧ acc.contains (ds.getD k 0) = false → missF l (ds.drop k) acc = missF l (ds.drop (k + 1)) (acc ++ [ds.getD k 0])) ∧ (findB l (ds.getD k 0) ≠ none ∨ acc.contains (ds.getD k 0) = true → missF l (ds.drop k) acc = missF l (ds.drop (k + 1)) acc)) := fun k acc hk => by
      have e : ds.drop k = ds.getD k 0 :: ds.drop (k + 1) := by
        rw [List.drop_eq_getElem_cons hk]
        simp [List.getD, hk]
      rw [e]
      exact ⟨fun h => missF_yes h.1 h.2, fun h => missF_no h⟩
    have HEND : Hid (∀ acc, missF l (ds.drop ds.length) acc = acc) := fun acc => by rw [List.drop_length]; rfl
    have HS0 : Hid (R = missF l (ds.drop 0) []) := HR
    have HFD : Hid (∀ d, (∃ k : Nat, findI l d = (k : Int) ∧ findB l d ≠ none) ∨ (findI l d = -1 ∧ findB l d = none)) := fun d => by
      rcases find_cases l d with ⟨k, _, h1, h2, _⟩ | ⟨h1, h2, _⟩
      · exact Or.inl ⟨k, h1, by rw [h2]; simp⟩
      · exact Or.inr ⟨h1, h2⟩
    obtain ⟨n, hn⟩ : ∃ n, n = ds.length := ⟨_, rfl⟩
    rw [← hn] at hp hld HA HST HEND ⊢
    clear hc hn hs hla HR hd
    go_enter Try.func59, Try.ntmps59
    go_wp2_with fail
    refine (hso _ ha1).mono ?_
    rintro e w9 ⟨rfl, hb9⟩
    have hB9 := hB0.trans (hb9.mono hB0.size)
    have ho9 := owns_below ho0 hb9
    clear hb9 hB0 ho0 hso ha1
    go_wp2
    go_loopw [5, 6] (fun v i wr => ∃ (k : Nat) (acc : List Int), k ≤ n ∧ acc.length ≤ k ∧ i = .int .i64 k ∧ wr.ownsRow w.heap.size 2 1 v acc.length (cellsInt64S acc) ∧ Hid (R = missF l (ds.drop k) acc) ∧ Below w.heap.size w wr) (fun _ i _ => n - (intOf i).toNat)
    case atStart => exact ⟨0, [], Nat.zero_le _, Nat.le_refl _, rfl, ho9, HS0, hB9⟩
    case round =>
      obtain ⟨k, acc, hk, hak, rfl, ho, hr, hb⟩ := hrel
      clear hB9 ho9
      by_cases hltk : k < n
      focus
        have c0 := HA.out k hltk
        have d0 := (hb.cell (p := ⟨b, off + k, none⟩) hlt).trans c0
        obtain ⟨hyes, hno⟩ := HST.out k acc hltk
        have HY := Lib.hid (fun h => hr.out.trans (hyes h))
        have HN := Lib.hid (fun h => hr.out.trans (hno h))
        obtain ⟨x, hx⟩ : ∃ x, x = ds.getD k 0 := ⟨_, rfl⟩
        rw [← hx] at d0 HY HN
        clear hx c0 hyes hno hr
        have hrb := rdB_below ha hb
        have hs1 := hb.size
        have hcall := hfi wr x hrb
        rcases HFD.out x with ⟨j, e1, e2⟩ | ⟨e1, e2⟩
        focus
          rw [e1] at hcall
          have HN2 := Lib.hid (HN.out (Or.inl e2))
          have hj : ¬ (j : Int) < 0 := by omega
          clear HY HN e1 e2
          go_wp2_with fail
          refine hcall.mono ?_
          rintro e w8 ⟨rfl, rfl⟩
          go_wp2
          go_roundw
          case rel => exact ⟨k + 1, acc, by omega, by omega, by go_num, ho, HN2, hb⟩
          case measure => simp [intOf]; omega
        rw [e1] at hcall
        have hcall2 := hhas wr _ acc x (rd_owns ho) (by omega)
        cases hcn : acc.contains x with
        | true =>
          rw [hcn] at hcall2
          have HN2 := Lib.hid (HN.out (Or.inr hcn))
          clear HY HN e1 e2 hcn
          go_wp2_with fail
          refine hcall.mono ?_
          rintro e w8 ⟨rfl, rfl⟩
          go_wp2_with fail
          refine hcall2.mono ?_
          rintro e w7 ⟨rfl, rfl⟩
          go_wp2
          go_roundw
          case rel => exact ⟨k + 1, acc, by omega, by omega, by go_num, ho, HN2, hb⟩
          case measure => simp [intOf]; omega
        | false =>
          rw [hcn] at hcall2
          have HY2 := Lib.hid (HY.out ⟨e2, hcn⟩)
          clear HY HN e1 e2 hcn
          go_wp2_with fail
          refine hcall.mono ?_
          rintro e w8 ⟨rfl, rfl⟩
          go_wp2_with fail
          refine hcall2.mono ?_
          rintro e w7 ⟨rfl, rfl⟩
          clear hcall hcall2
          go_wp2_with (at_builtin; refine wpList_append_own _ rfl _ _ 28 rfl w.heap.size 2 i0 (.int .i64 0) 1 8 Try.underlying28 hi hz0 hz1 hz2 rfl (by decide) _ _ _ rfl (ho.alloc _) ⟨w7.heap.size, 0, none⟩ 1 1 [.int .i64 x] rfl rfl (one_cell w7 .i64 _ _) (ints_oneCell .i64 [x]) (by unfold maxLen; omega) (by omega) (by rw [World.size_alloc]; omega) ?_)
          intro v3 w3 ho3 hg3 _
          have hb3 : Below w.heap.size w w3 := (hb.alloc (by omega) _).grown hg3 (by simp; omega) (fun k hk => (ho.lt k hk).1)
          have ho4 : w3.ownsRow w.heap.size 2 1 v3 (acc ++ [x]).length (cellsInt64S (acc ++ [x])) := by simpa using ho3
          clear ho3 hg3 ho hb d0
          go_wp2
          go_roundw
          case rel => exact ⟨k + 1, acc ++ [x], by omega, by simp; omega, by go_num, ho4, HY2, hb3⟩
          case measure => simp [intOf]; omega
      obtain rfl : k = n := by omega
      have HRR : R = acc := by rw [hr.out, HEND.out]
      subst HRR
      go_wp2
      go_ret
      exact ⟨_, rfl, ho, hb⟩
end Go.Proofs.Ytfoncmeplofedab
