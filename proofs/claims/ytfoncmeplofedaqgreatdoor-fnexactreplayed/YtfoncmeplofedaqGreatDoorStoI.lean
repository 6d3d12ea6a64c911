/- CONTRACTS: the specification's l7Put, Put, Missing. -/
import Derived.Test.YtfoncmeplofedaqGreatDoorStoP
import Derived.Test.YtfoncmeplofedaqGreatDoorBuna
import Derived.Deep.RegionLaw
namespace Go.Proofs.YtfoncmeplofedaqGreatDoor
open Go.RowKit
set_option linter.unusedVariables false
set_option maxHeartbeats 1000000 in
set_option maxRecDepth 100000 in
theorem l7Put_any (va : Value) (l : List Bl) (x1 : Int) (x2 : ByteArray) (w : World) (ha : RdB w va l) (hl : l.length ≤ 524288) (hr : l.Pairwise (fun p q => p.1 < q.1)) (hn : ∀ p ∈ l, p.1 ≠ x1) :
    Calls Tryz.prog 46 #[va, .agg #[.int .i64 x1, .string x2]] w fun e w' => ∃ v, e = .returned v ∧ w'.ownsRow w.heap.size 67 2 v (insB l (x1, x2)).length (blC (insB l (x1, x2))) ∧ Below w.heap.size w w' := by
  have HIN : Hid (∀ k, k ≤ l.length → (∀ j, j < k → (l.getD j bl0).1 < x1) → (k < l.length → ¬ (l.getD k bl0).1 < x1) → insB l (x1, x2) = l.take k ++ [(x1, x2)] ++ l.drop k) := fun k hk h1 h2 => ins_at hr hn hk h1 h2
  have HTO : Hid (∀ k, k ≤ l.length → ∃ u, (∀ w', Below w.heap.size w w' → RdB w' u (l.take k)) ∧ ∀ W : World, (Instr.slice 62 va none (some (.int .i64 (k : Int))) none).run Tryz.prog W = .ok u W) := fun k hk => slB_to ha k hk
  have HFR : Hid (∀ k, k ≤ l.length → ∃ u, (∀ w', Below w.heap.size w w' → RdB w' u (l.drop k)) ∧ ∀ W : World, (Instr.slice 62 va (some (.int .i64 (k : Int))) none none).run Tryz.prog W = .ok u W) := fun k hk => slB_from ha k hk
  generalize insB l (x1, x2) = R at HIN ⊢
  have hB0 := (Below.refl w.heap.size w).alloc (Nat.le_refl _) (.cells #[.int .i64 x1, .string x2] 67)
  clear hr hn
  rcases rdB_cases ha with ⟨h0, ao, cap, rfl⟩ | ⟨hp, b, off, cap, rfl, hcap, hlt, hc⟩
  · subst h0
    obtain ⟨u1, hu1, hsl1⟩ := HTO.out 0 (Nat.zero_le _)
    obtain ⟨u2, hu2, hsl2⟩ := HFR.out 0 (Nat.zero_le _)
    have HR : Hid (R = [] ++ [(x1, x2)] ++ []) := HIN.out 0 (Nat.zero_le _) (fun j h => absurd h (Nat.not_lt_zero _)) (fun h => absurd h (Nat.not_lt_zero _))
    obtain ⟨A, hA⟩ : ∃ A : List Bl, A = [] := ⟨_, rfl⟩
    obtain ⟨B, hBB⟩ : ∃ B : List Bl, B = [] := ⟨_, rfl⟩
    have htl : A.length = 0 := by rw [hA]; rfl
    have hdl : B.length = 0 := by rw [hBB]; rfl
    have hsl1' : ∀ W : World, (Instr.slice 62 (.slice ao 0 cap) none (some (.int .i64 0)) none).run Tryz.prog W = .ok u1 W := hsl1
    have hsl2' : ∀ W : World, (Instr.slice 62 (.slice ao 0 cap) (some (.int .i64 0)) none none).run Tryz.prog W = .ok u2 W := hsl2
    have hu1' : ∀ w', Below w.heap.size w w' → RdB w' u1 A := by rw [hA]; exact hu1
    have hu2' : ∀ w', Below w.heap.size w w' → RdB w' u2 B := by rw [hBB]; exact hu2
    have HR' : Hid (R = A ++ [(x1, x2)] ++ B) := by rw [hA, hBB]; exact HR
    clear hA hBB HTO HFR HIN hsl1 hsl2 hu1 hu2 HR ha
    have hx0 : (w.alloc (.cells #[.int .i64 x1, .string x2] 67)).cell? ⟨w.heap.size, 0, none⟩ = some (.int .i64 x1) := by simp
    have hx1 : (w.alloc (.cells #[.int .i64 x1, .string x2] 67)).cell? ⟨w.heap.size, 1, none⟩ = some (.string x2) := by simp
    have hxs : w.heap.size < (w.alloc (.cells #[.int .i64 x1, .string x2] 67)).heap.size := by rw [World.size_alloc]; omega
    go_enter Tryz.func46, Tryz.ntmps46
    go_wp2
    generalize w.alloc (.cells #[.int .i64 x1, .string x2] 67) = w1 at hB0 hx0 hx1 hxs ⊢
    refine wp_loop_rounds 1 ?_
    rw [rounds_succ]
    go_wp2
    go_quiet (fail)
    go_wp2_with (at_builtin; refine wpList_append_blobs rfl _ _ rfl w1.heap.size _ [] A _ rfl rfl (World.ownsRow_lit (base := w1.heap.size) (e := 67) (size := 2) _ #[] 0 (by simp) (Nat.zero_le _) rfl) (hu1' _ ((below_drewN hB0 _).alloc (by simp; omega) _)) (by rw [List.length_nil, htl]; omega) (by simp) ?_)
    intro v3 w3 ho3 hg3
    have hb31 : Below w1.heap.size w1 w3 := ((below_drewN (Below.refl _ _) _).alloc (by simp) _).grown hg3 (by simp) (fun g h => by simp [Value.ownBlock] at h; omega)
    have hb3 : Below w.heap.size w w3 := hB0.trans (hb31.mono hB0.size)
    have e0 := (hb31.cell (p := ⟨w.heap.size, 0, none⟩) hxs).trans hx0
    have e1 := (hb31.cell (p := ⟨w.heap.size, 1, none⟩) hxs).trans hx1
    have hs3 := hb31.size
    have ho4 : w3.ownsRow w1.heap.size 67 2 v3 A.length (blC A) := by rw [htl]; first | exact ho3 | simpa [htl] using ho3
    clear ho3 hg3 hx0 hx1 hu1' hsl1'
    go_wp2
    go_region_law (first
      | (refine step_append_blobs rfl (.tmp 28) (.tmp 30) rfl w1.heap.size v3 A [(x1, x2)] (.slice (some ⟨w3.heap.size, 0, none⟩) 1 1) (by simp [Act.eval]) (by simp [Act.eval]) (ho4.drew.alloc _) (rdB_one w3.drew (x1, x2) 67) (by rw [List.length_singleton, htl]; omega) (by simp; omega) ?_; intro v5 w5 ho5 hg5; have hb5 : Below w.heap.size w w5 := (hb3.drew.alloc (by simp; omega) _).grown hg5 (by simp; omega) (fun g h => by have := (ho4.lt g h).1; omega); have ho5' : w5.ownsRow w1.heap.size 67 2 v5 (A ++ [(x1, x2)]).length (blC (A ++ [(x1, x2)])) := by (rw [List.length_append]; exact ho5))
      | (refine step_append_blobs rfl (.tmp 31) (.tmp 34) rfl w1.heap.size v5 (A ++ [(x1, x2)]) B u2 (by simp [Act.eval]) (by simp [Act.eval]) ho5' (hu2' _ hb5) (by rw [List.length_append, List.length_singleton, htl, hdl]; omega) (by have := hb5.size; have := hg5.size; simp at this; omega) ?_; intro v6 w6 ho6 hg6))
    all_goals
      have ho7 : w6.ownsRow w.heap.size 67 2 v6 R.length (blC R) := by
        rw [HR'.out, List.length_append]
        exact owns_base ho6 (Nat.le_of_lt hxs)
      have hB6 : Below w.heap.size w w6 := hb5.grown hg6 hb5.size (fun g h => by have := (ho5'.lt g h).1; omega)
      clear ho6 hg6 ho5 ho5' hg5 hb5 ho4 HR'
      go_wp2
      go_ret
      exact ⟨_, rfl, ho7, hB6⟩
  have HA := Lib.hid hc
  have HTL : Hid (∀ k, k ≤ l.length → (l.take k).length = k ∧ (l.drop k).length = l.length - k) := fun k hk => ⟨by rw [List.length_take]; omega, List.length_drop⟩
  obtain ⟨n, hnn⟩ : ∃ n, n = l.length := ⟨_, rfl⟩
  rw [← hnn] at hp hl ha HA HIN HTO HFR HTL ⊢
  clear hc hnn hcap ha
  have hx0 : (w.alloc (.cells #[.int .i64 x1, .string x2] 67)).cell? ⟨w.heap.size, 0, none⟩ = some (.int .i64 x1) := by simp
  have hx1 : (w.alloc (.cells #[.int .i64 x1, .string x2] 67)).cell? ⟨w.heap.size, 1, none⟩ = some (.string x2) := by simp
  have hxs : w.heap.size < (w.alloc (.cells #[.int .i64 x1, .string x2] 67)).heap.size := by rw [World.size_alloc]; omega
  go_enter Tryz.func46, Tryz.ntmps46
  go_wp2
  generalize w.alloc (.cells #[.int .i64 x1, .string x2] 67) = w1 at hB0 hx0 hx1 hxs ⊢
  go_loopw [5] (fun i wr => ∃ k q : Nat, k ≤ n ∧ i = .int .i64 k ∧ wr = w1.drewN q ∧ Hid (∀ j, j < k → (l.getD j bl0).1 < x1)) (fun i _ => n - (intOf i).toNat)
  case atStart => exact ⟨0, 0, Nat.zero_le _, rfl, rfl, fun j h => by omega⟩
  case round =>
    obtain ⟨k, q, hk, rfl, rfl, hlo⟩ := hrel
    by_cases hltk : k < n
    focus
      obtain ⟨c0, _⟩ := HA.out k hltk
      have HNK : Hid ((l.getD k bl0).1 < x1 → ∀ j, j < k + 1 → (l.getD j bl0).1 < x1) := fun h j hj => by
        rcases Nat.lt_or_ge j k with g | g
        · exact hlo.out j g
        · obtain rfl : j = k := by omega
          exact h
      have HRK : Hid (¬ (l.getD k bl0).1 < x1 → R = l.take k ++ [(x1, x2)] ++ l.drop k) := fun h => HIN.out k (by omega) hlo.out (fun _ => by first | exact h | exact Int.not_lt.1 h)
      obtain ⟨y, hy⟩ : ∃ y, y = (l.getD k bl0).1 := ⟨_, rfl⟩
      rw [← hy] at c0 HNK HRK
      have d0 := (hB0.cell (p := ⟨b, off + k * 2, none⟩) hlt).trans c0
      clear hy hlo c0
      by_cases hyx : y < x1
      focus
        have HNX := Lib.hid (HNK.out hyx)
        clear HNK HRK
        go_wp2
        have g1 : decide (k < n) = true := decide_eq_true hltk
        have g2 : decide (y < x1) = true := decide_eq_true hyx
        go_quiet (fail)
        go_wp2
        go_roundw
        case rel => exact ⟨k + 1, _, by omega, by go_num, rfl, HNX⟩
        case measure => simp [intOf]; omega
      have HR := Lib.hid (HRK.out hyx)
      clear HNK HRK
      obtain ⟨u1, hu1, hsl1⟩ := HTO.out k (by omega)
      obtain ⟨u2, hu2, hsl2⟩ := HFR.out k (by omega)
      obtain ⟨htl, hdl⟩ := HTL.out k (by omega)
      obtain ⟨A, hA⟩ : ∃ A, A = l.take k := ⟨_, rfl⟩
      obtain ⟨B, hBB⟩ : ∃ B, B = l.drop k := ⟨_, rfl⟩
      rw [← hA] at hu1 htl HR
      rw [← hBB] at hu2 hdl HR
      clear hA hBB HTO HFR HTL HIN HA
      go_wp2
      have g1 : decide (k < n) = true := decide_eq_true hltk
      have g2 : decide (y < x1) = false := decide_eq_false (by omega)
      go_quiet (fail)
      go_wp2_with (at_builtin; refine wpList_append_blobs rfl _ _ rfl w1.heap.size _ [] A _ rfl rfl (World.ownsRow_lit (base := w1.heap.size) (e := 67) (size := 2) _ #[] 0 (by simp) (Nat.zero_le _) rfl) (hu1 _ ((below_drewN hB0 _).alloc (by simp; omega) _)) (by rw [List.length_nil, htl]; omega) (by simp) ?_)
      intro v3 w3 ho3 hg3
      have hb31 : Below w1.heap.size w1 w3 := ((below_drewN (Below.refl _ _) _).alloc (by simp) _).grown hg3 (by simp) (fun g h => by simp [Value.ownBlock] at h; omega)
      have hb3 : Below w.heap.size w w3 := hB0.trans (hb31.mono hB0.size)
      have e0 := (hb31.cell (p := ⟨w.heap.size, 0, none⟩) hxs).trans hx0
      have e1 := (hb31.cell (p := ⟨w.heap.size, 1, none⟩) hxs).trans hx1
      have hs3 := hb31.size
      have ho4 : w3.ownsRow w1.heap.size 67 2 v3 A.length (blC A) := by rw [htl]; first | exact ho3 | simpa [htl] using ho3
      clear ho3 hg3 hx0 hx1 d0 hu1 hsl1
      go_wp2
      go_region_law (first
        | (refine step_append_blobs rfl (.tmp 28) (.tmp 30) rfl w1.heap.size v3 A [(x1, x2)] (.slice (some ⟨w3.heap.size, 0, none⟩) 1 1) (by simp [Act.eval]) (by simp [Act.eval]) (ho4.drew.alloc _) (rdB_one w3.drew (x1, x2) 67) (by rw [List.length_singleton, htl]; omega) (by simp; omega) ?_; intro v5 w5 ho5 hg5; have hb5 : Below w.heap.size w w5 := (hb3.drew.alloc (by simp; omega) _).grown hg5 (by simp; omega) (fun g h => by have := (ho4.lt g h).1; omega); have ho5' : w5.ownsRow w1.heap.size 67 2 v5 (A ++ [(x1, x2)]).length (blC (A ++ [(x1, x2)])) := by (rw [List.length_append]; exact ho5))
        | (refine step_append_blobs rfl (.tmp 31) (.tmp 34) rfl w1.heap.size v5 (A ++ [(x1, x2)]) B u2 (by simp [Act.eval]) (by simp [Act.eval]) ho5' (hu2 _ hb5) (by rw [List.length_append, List.length_singleton, htl, hdl]; omega) (by have := hb5.size; have := hg5.size; simp at this; omega) ?_; intro v6 w6 ho6 hg6))
      all_goals
        have ho7 : w6.ownsRow w.heap.size 67 2 v6 R.length (blC R) := by
          rw [HR.out, List.length_append]
          exact owns_base ho6 (Nat.le_of_lt hxs)
        have hB6 : Below w.heap.size w w6 := hb5.grown hg6 hb5.size (fun g h => by have := (ho5'.lt g h).1; omega)
        clear ho6 hg6 ho5 ho5' hg5 hb5 ho4 HR
        go_wp2
        go_ret
        exact ⟨_, rfl, ho7, hB6⟩
    obtain rfl : k = n := by omega
    have HR := Lib.hid (HIN.out k (by omega) hlo.out (fun h => absurd h (by omega)))
    clear hlo
    obtain ⟨u1, hu1, hsl1⟩ := HTO.out k (by omega)
    obtain ⟨u2, hu2, hsl2⟩ := HFR.out k (by omega)
    obtain ⟨htl, hdl⟩ := HTL.out k (by omega)
    obtain ⟨A, hA⟩ : ∃ A, A = l.take k := ⟨_, rfl⟩
    obtain ⟨B, hBB⟩ : ∃ B, B = l.drop k := ⟨_, rfl⟩
    rw [← hA] at hu1 htl HR
    rw [← hBB] at hu2 hdl HR
    clear hA hBB HTO HFR HTL HIN HA
    go_wp2
    go_quiet (fail)
    go_wp2_with (at_builtin; refine wpList_append_blobs rfl _ _ rfl w1.heap.size _ [] A _ rfl rfl (World.ownsRow_lit (base := w1.heap.size) (e := 67) (size := 2) _ #[] 0 (by simp) (Nat.zero_le _) rfl) (hu1 _ ((below_drewN hB0 _).alloc (by simp; omega) _)) (by rw [List.length_nil, htl]; omega) (by simp) ?_)
    intro v3 w3 ho3 hg3
    have hb31 : Below w1.heap.size w1 w3 := ((below_drewN (Below.refl _ _) _).alloc (by simp) _).grown hg3 (by simp) (fun g h => by simp [Value.ownBlock] at h; omega)
    have hb3 : Below w.heap.size w w3 := hB0.trans (hb31.mono hB0.size)
    have e0 := (hb31.cell (p := ⟨w.heap.size, 0, none⟩) hxs).trans hx0
    have e1 := (hb31.cell (p := ⟨w.heap.size, 1, none⟩) hxs).trans hx1
    have hs3 := hb31.size
    have ho4 : w3.ownsRow w1.heap.size 67 2 v3 A.length (blC A) := by rw [htl]; first | exact ho3 | simpa [htl] using ho3
    clear ho3 hg3 hx0 hx1 hu1 hsl1
    go_wp2
    go_region_law (first
      | (refine step_append_blobs rfl (.tmp 28) (.tmp 30) rfl w1.heap.size v3 A [(x1, x2)] (.slice (some ⟨w3.heap.size, 0, none⟩) 1 1) (by simp [Act.eval]) (by simp [Act.eval]) (ho4.drew.alloc _) (rdB_one w3.drew (x1, x2) 67) (by rw [List.length_singleton, htl]; omega) (by simp; omega) ?_; intro v5 w5 ho5 hg5; have hb5 : Below w.heap.size w w5 := (hb3.drew.alloc (by simp; omega) _).grown hg5 (by simp; omega) (fun g h => by have := (ho4.lt g h).1; omega); have ho5' : w5.ownsRow w1.heap.size 67 2 v5 (A ++ [(x1, x2)]).length (blC (A ++ [(x1, x2)])) := by (rw [List.length_append]; exact ho5))
      | (refine step_append_blobs rfl (.tmp 31) (.tmp 34) rfl w1.heap.size v5 (A ++ [(x1, x2)]) B u2 (by simp [Act.eval]) (by simp [Act.eval]) ho5' (hu2 _ hb5) (by rw [List.length_append, List.length_singleton, htl, hdl]; omega) (by have := hb5.size; have := hg5.size; simp at this; omega) ?_; intro v6 w6 ho6 hg6))
    all_goals
      have ho7 : w6.ownsRow w.heap.size 67 2 v6 R.length (blC R) := by
        rw [HR.out, List.length_append]
        exact owns_base ho6 (Nat.le_of_lt hxs)
      have hB6 : Below w.heap.size w w6 := hb5.grown hg6 hb5.size (fun g h => by have := (ho5'.lt g h).1; omega)
      clear ho6 hg6 ho5 ho5' hg5 hb5 ho4 HR
      go_wp2
      go_ret
      exact ⟨_, rfl, ho7, hB6⟩
set_option maxHeartbeats 1000000 in
set_option maxRecDepth 100000 in
theorem specPut_any (va : Value) (l : List Bl) (s : ByteArray) (w : World) (ha : RdB w va l) (hl : l.length ≤ 1048576) (hs : ∀ p ∈ l, p.2.size ≤ 1048576) (hss : s.size ≤ 1048576) :
    Calls Tryz.prog 30 #[va, .string s] w fun e w' => ∃ v, e = .returned (.tuple #[v, .int .i64 (putT l s).2.1, .int .i64 (putT l s).2.2]) ∧ w'.ownsRow w.heap.size 67 2 v (putT l s).1.length (blC (putT l s).1) ∧ Below w.heap.size w w' := by
  have hso := fun w' h => specStoreOk_any va l w' h (by omega) hs
  have hB0 := (Below.refl w.heap.size w).alloc (Nat.le_refl _) (.cells #[] 67)
  cases hok : storeB l with
  | false =>
    have e : putT l s = ([], 0, 4) := by unfold putT; rw [hok]; rfl
    rw [e]
    rw [hok] at hso
    clear e hok hs
    obtain ⟨ao, cap, rfl⟩ := rdB_shape ha
    have ho := fun (W : World) (h : w.heap.size ≤ W.heap.size) => World.ownsRow_lit (base := w.heap.size) (e := 67) (size := 2) W #[] 0 h (Nat.zero_le _) rfl
    go_enter Tryz.func30, Tryz.ntmps30
    go_wp2_with fail
    refine (hso _ ha).mono ?_
    rintro e w9 ⟨rfl, hb9⟩
    have HO := Lib.hid (ho w9 hb9.size)
    have HB := Lib.hid (hb9.alloc hb9.size (.cells #[] 67))
    clear ho hb9 hB0
    go_wp2
    exact bodyPost_ret (v := .tuple #[.slice (some ⟨w9.heap.size, 0, none⟩) 0 0, .int .i64 0, .int .i64 4]) (by simp [results, Tryz.results30, go_sem]) rfl ⟨_, rfl, HO.out, HB.out⟩
  | true =>
    rw [hok] at hso
    have hsto := storeB_iff.1 hok
    have hl3 := hsto.1
    have hl1 : l.length ≤ 1048576 := by omega
    have happ := fun (W : World) (hb : Below w.heap.size w W) => rdB_below ha hb
    have HP0 : Hid (2000 < s.size → putT l s = (l, 0, 4)) := fun h => by unfold putT; rw [if_pos hok, if_pos h]
    have HP1 : Hid (¬ 2000 < s.size → ∀ p, findB l (digest s) = some p → p.2 = s → putT l s = (l, digest s, 1)) := fun h p h1 h2 => by unfold putT; rw [if_pos hok, if_neg h, h1]; simp only; rw [if_pos h2]
    have HP2 : Hid (¬ 2000 < s.size → ∀ p, findB l (digest s) = some p → p.2 ≠ s → putT l s = (l, 0, 2)) := fun h p h1 h2 => by unfold putT; rw [if_pos hok, if_neg h, h1]; simp only; rw [if_neg h2]
    have HP3 : Hid (¬ 2000 < s.size → findB l (digest s) = none → l.length = 300 → putT l s = (l, 0, 3)) := fun h h1 h2 => by unfold putT; rw [if_pos hok, if_neg h, h1]; simp only; rw [if_pos h2]
    have HP4 : Hid (¬ 2000 < s.size → findB l (digest s) = none → l.length ≠ 300 → putT l s = (insB l (digest s, s), digest s, 0)) := fun h h1 h2 => by unfold putT; rw [if_pos hok, if_neg h, h1]; simp only; rw [if_neg h2]
    have hfd := find_cases l (digest s)
    have hfi := fun w' h => l7Find_any va l (digest s) w' h hl1
    have hdg := fun w' => specDigest_any s w' (by omega)
    have hput := fun w' h hn => l7Put_any va l (digest s) s w' h (by omega) hsto.2.2 hn
    generalize putT l s = R at HP0 HP1 HP2 HP3 HP4 ⊢
    obtain ⟨D, hD⟩ : ∃ D, D = digest s := ⟨_, rfl⟩
    rw [← hD] at HP1 HP2 HP3 HP4 hfd hfi hdg hput
    clear hD hsto hs hok hss hB0
    have HAP := Lib.hid happ
    have HNE := Lib.hid hl3
    clear happ
    obtain ⟨FI, hFI⟩ : ∃ FI, FI = findI l D := ⟨_, rfl⟩
    rw [← hFI] at hfi hfd
    clear hFI
    have HFD := Lib.hid hfd
    have HRD := Lib.hid ha
    obtain ⟨n, hn⟩ : ∃ n, n = l.length := ⟨_, rfl⟩
    have HN : Hid (n = l.length) := hn
    obtain ⟨ao, cap, hva⟩ := rdB_shape ha
    rw [← hn] at hva
    have HVA := Lib.hid hva
    have start : ∀ (P : Ending → World → Prop), (∀ w3 v3, w3.ownsRow w.heap.size 67 2 v3 l.length (blC l) → Below w.heap.size w w3 → True) → True := fun _ _ => trivial
    clear start hfd hn
    subst hva
    by_cases h2 : 2000 < s.size
    focus
      have hR := HP0.out h2
      subst hR
      have h2I : (2000 : Int) < (s.size : Int) := by omega
      clear HP0 HP1 HP2 HP3 HP4 hput hfi hdg HFD
      go_enter Tryz.func30, Tryz.ntmps30
      go_wp2_with fail
      refine (hso _ ha).mono ?_
      rintro e w9 ⟨rfl, hb9⟩
      go_wp2_with (at_builtin; refine wpList_append_blobs rfl _ _ rfl w.heap.size _ [] l _ rfl rfl (World.ownsRow_lit (base := w.heap.size) (e := 67) (size := 2) _ #[] 0 hb9.size (Nat.zero_le _) rfl) (HAP.out _ (hb9.alloc hb9.size _)) (by rw [List.length_nil]; omega) (by have := hb9.size; simp; omega) ?_)
      intro v3 w3 ho3 hg3
      have hb3 : Below w.heap.size w w3 := (hb9.alloc hb9.size _).grown hg3 (by have := hb9.size; simp; omega) (fun g h => by have := hb9.size; simp [Value.ownBlock] at h; omega)
      have ho4 : w3.ownsRow w.heap.size 67 2 v3 l.length (blC l) := by simpa using ho3
      clear ho3 hg3 hb9 HAP HNE HRD HVA
      go_wp2
      exact bodyPost_ret (v := .tuple #[v3, .int .i64 0, .int .i64 4]) (by simp [results, Tryz.results30, go_sem]) rfl ⟨_, rfl, ho4, hb3⟩
    have h2I : ¬ (2000 : Int) < (s.size : Int) := by omega
    have HQ1 := Lib.hid (HP1.out h2)
    have HQ2 := Lib.hid (HP2.out h2)
    have HQ3 := Lib.hid (HP3.out h2)
    have HQ4 := Lib.hid (HP4.out h2)
    have HPUT := Lib.hid hput
    clear HP0 HP1 HP2 HP3 HP4 hput
    go_enter Tryz.func30, Tryz.ntmps30
    go_wp2_with fail
    refine (hso _ ha).mono ?_
    rintro e w9 ⟨rfl, hb9⟩
    go_wp2_with (at_builtin; refine wpList_append_blobs rfl _ _ rfl w.heap.size _ [] l _ rfl rfl (World.ownsRow_lit (base := w.heap.size) (e := 67) (size := 2) _ #[] 0 hb9.size (Nat.zero_le _) rfl) (HAP.out _ (hb9.alloc hb9.size _)) (by rw [List.length_nil]; omega) (by have := hb9.size; simp; omega) ?_)
    intro v3 w3 ho3 hg3
    have hb3 : Below w.heap.size w w3 := (hb9.alloc hb9.size _).grown hg3 (by have := hb9.size; simp; omega) (fun g h => by have := hb9.size; simp [Value.ownBlock] at h; omega)
    have ho4 : w3.ownsRow w.heap.size 67 2 v3 l.length (blC l) := by simpa using ho3
    have HR3 := Lib.hid (HAP.out w3 hb3)
    clear ho3 hg3 hb9 hso
    go_wp2_with fail
    refine (hdg _).mono ?_
    rintro e w4 ⟨rfl, rfl⟩
    go_wp2_with fail
    refine (hfi _ HR3.out).mono ?_
    rintro e w5 ⟨rfl, rfl⟩
    rcases HFD.out with ⟨k, hk, rfl, hfb, hd⟩ | ⟨rfl, hfb, hno⟩
    focus
      obtain ⟨hn0, b, off, cap', hv, hcap, hlt, hc⟩ : 0 < l.length ∧ ∃ b off cap', Value.slice ao n cap = .slice (some ⟨b, off, none⟩) l.length cap' ∧ l.length ≤ cap' ∧ b < w5.heap.size ∧ ∀ j, j < l.length → w5.cell? ⟨b, off + j * 2, none⟩ = some (.int .i64 (l.getD j bl0).1) ∧ w5.cell? ⟨b, off + j * 2 + 1, none⟩ = some (.string (l.getD j bl0).2) := by
        rcases rdB_cases HR3.out with ⟨h0, _⟩ | h
        · subst h0; exact absurd hk (Nat.not_lt_zero _)
        · exact h
      simp only [Value.slice.injEq] at hv
      obtain ⟨rfl, hn2, rfl⟩ := hv
      obtain ⟨d0, d1⟩ := hc k hk
      have HQ1k := Lib.hid (HQ1.out _ hfb)
      have HQ2k := Lib.hid (HQ2.out _ hfb)
      obtain ⟨x, hx⟩ : ∃ x, x = (l.getD k bl0).2 := ⟨_, rfl⟩
      obtain ⟨y, hy⟩ : ∃ y, y = (l.getD k bl0).1 := ⟨_, rfl⟩
      rw [← hx] at d1 HQ1k HQ2k
      rw [← hy] at d0
      rw [← hn2] at hk
      have hkI : (0 : Int) ≤ (k : Int) := by omega
      clear hc hx hy HQ1 HQ2 HQ3 HQ4 HPUT HFD hfb hd hfi hdg hn2 HN HNE HAP HR3 HRD HVA ha hcap hn0
      by_cases hxs : x = s
      focus
        have hR := HQ1k.out hxs
        subst hR
        subst hxs
        clear HQ1k HQ2k
        go_wp2
        exact bodyPost_ret (v := .tuple #[v3, .int .i64 D, .int .i64 1]) (by simp [results, Tryz.results30, go_sem]) rfl ⟨_, rfl, ho4, hb3⟩
      have hR := HQ2k.out hxs
      subst hR
      have g0 : ¬ x.toList = s.toList := fun e => hxs (same_of e)
      have g1 : (x.toList == s.toList) = false := by simp [g0]
      clear HQ1k HQ2k
      go_wp2
      exact bodyPost_ret (v := .tuple #[v3, .int .i64 0, .int .i64 2]) (by simp [results, Tryz.results30, go_sem]) rfl ⟨_, rfl, ho4, hb3⟩
    have hxn : ¬ (0 : Int) ≤ -1 := by omega
    have HQ3n := Lib.hid (HQ3.out hfb)
    have HQ4n := Lib.hid (HQ4.out hfb)
    clear HQ1 HQ2 HQ3 HQ4 HFD hfb hfi hdg
    by_cases h300 : n = 300
    focus
      have hR := HQ3n.out (by rw [← HN.out]; exact h300)
      subst hR
      have h300I : (n : Int) = 300 := by omega
      clear HQ3n HQ4n HPUT HNE HAP HR3 HRD HVA ha hno
      go_wp2
      exact bodyPost_ret (v := .tuple #[v3, .int .i64 0, .int .i64 3]) (by simp [results, Tryz.results30, go_sem]) rfl ⟨_, rfl, ho4, hb3⟩
    have hR := HQ4n.out (by rw [← HN.out]; exact h300)
    subst hR
    have hput2 := Lib.hid (HPUT.out w5 HR3.out hno)
    have h300I : ¬ (n : Int) = 300 := by omega
    clear HQ3n HQ4n HPUT HNE HAP HR3 HRD HVA ha hno
    go_wp2_with fail
    refine hput2.out.mono ?_
    rintro e w6 ⟨v6, rfl, ho6, hb6⟩
    have HO := Lib.hid (owns_base ho6 hb3.size)
    have HB := Lib.hid (hb3.trans (hb6.mono hb3.size))
    clear ho6 hb6 hput2
    go_wp2
    exact bodyPost_ret (v := .tuple #[v6, .int .i64 D, .int .i64 0]) (by simp [results, Tryz.results30, go_sem]) rfl ⟨_, rfl, HO.out, HB.out⟩
end Go.Proofs.YtfoncmeplofedaqGreatDoor
