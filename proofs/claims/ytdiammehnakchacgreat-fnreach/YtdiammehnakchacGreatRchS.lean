/- CONTRACTS: the specification's l1Put, l8Children, l8Reach, Reach. -/
import Derived.Test.YtdiammehnakchacGreatQue
import Derived.Test.YtdiammehnakchacGreatRchE
import Derived.Test.YtdiammehnakchacGreatStoP
import Derived.Deep.LoopGhost
namespace Go.Proofs.YtdiammehnakchacGreat
open Go.RowKit
set_option linter.unusedVariables false
def InsEnd (B : Nat) (v : Value) (L : List Int) (n : Int) (w : World) (e : Ending) (w' : World) : Prop :=
  ∃ v' M, e = .returned v' ∧ w'.ownsRow B 2 1 v' M.length (cellsInt64S M) ∧ M.Pairwise (· < ·) ∧ (∀ x, x ∈ M ↔ x = n ∨ x ∈ L) ∧ w.grownBy w' v.ownBlock ∧ ∀ k, v'.ownBlock = some k → v.ownBlock = some k ∨ w.heap.size ≤ k
theorem ins_same {B : Nat} {v : Value} {L : List Int} {n : Int} {w : World} (h : w.ownsRow B 2 1 v L.length (cellsInt64S L)) (hL : L.Pairwise (· < ·)) (hm : n ∈ L) : InsEnd B v L n w (.returned v) w :=
  ⟨v, L, rfl, h, hL, fun y => ⟨fun h => Or.inr h, fun h => h.elim (fun e => by rw [e]; exact hm) id⟩, ⟨rfl, rfl, rfl, Nat.le_refl _, fun _ _ _ => rfl⟩, fun k hk => Or.inl hk⟩
set_option maxHeartbeats 2000000 in
set_option maxRecDepth 100000 in
theorem l1Put_any (B : Nat) (v : Value) (L : List Int) (n : Int) (w : World) (h : w.ownsRow B 2 1 v L.length (cellsInt64S L)) (hL : L.Pairwise (· < ·)) (hl : L.length ≤ 4194304) (hB : B ≤ w.heap.size) :
    Calls Tryz.prog 62 #[v, .int .i64 n] w (InsEnd B v L n w) := by
  have hrefl : w.grownBy w v.ownBlock := ⟨rfl, rfl, rfl, Nat.le_refl _, fun _ _ _ => rfl⟩
  have hla : (cellsInt64S L).length = L.length := by simp
  have HRise : Hid (L.Pairwise (· < ·)) := hL
  have HGET : Hid (∀ j k, j < k → k < L.length → L.getD j 0 < L.getD k 0) := fun j k hjk hk => by
    have := List.pairwise_iff_getElem.1 hL j k (by omega) hk hjk
    simpa [List.getD, hk, show j < L.length by omega] using this
  have HTAIL : Hid (∀ k, k ≤ L.length → (∀ j, j < k → L.getD j 0 < n) → (k < L.length → n < L.getD k 0) →
      Calls Tryz.prog 62 #[v, .int .i64 n] w (fun _ _ => True) → True) := fun _ _ _ _ _ => trivial
  obtain ⟨ao, cap, hv⟩ : ∃ ao cap, v = .slice ao L.length cap := owns_slice h
  have HC : Hid (∀ j, j < L.length → ∃ g, ao = some ⟨g, 0, none⟩ ∧ w.cell? ⟨g, j, none⟩ = some (.int .i64 (L.getD j 0))) := fun j hj => by
    obtain ⟨g, c, hg, _⟩ := owns_head h (by omega)
    rw [hv] at hg
    simp only [Value.slice.injEq] at hg
    refine ⟨g, hg.1, ?_⟩
    have h2 := h
    rw [hv, hg.1] at h2
    exact (h2.cellAt j (by omega)).trans (ints_get .i64 L j hj)
  have HO := Lib.hid h
  obtain ⟨N, hN⟩ : ∃ N, N = L.length := ⟨_, rfl⟩
  have HN := Lib.hid hN
  rw [← hN] at hv hl HC
  have HV := Lib.hid hv
  subst hv
  clear h hL hN hla HTAIL
  go_enter Tryz.func62, Tryz.ntmps62
  go_wp2
  go_loop [5] (fun i => ∃ k : Nat, k ≤ N ∧ i = .int .i64 k ∧ Hid (∀ j, j < k → L.getD j 0 < n)) (fun i => N - (intOf i).toNat)
  case atStart => exact ⟨0, Nat.zero_le _, rfl, fun j h => by omega⟩
  case round =>
    obtain ⟨k, hk, rfl, hlo⟩ := hrel
    by_cases hltk : k < N
    · obtain ⟨g, rfl, d0⟩ := HC.out k hltk
      have hnew : Hid (L.getD k 0 < n → ∀ j, j < k + 1 → L.getD j 0 < n) := fun h j hj => by
        rcases Nat.lt_or_ge j k with g | g
        · exact hlo.out j g
        · obtain rfl : j = k := by omega
          exact h
      have HX : Hid (∃ x, x = L.getD k 0) := ⟨_, rfl⟩
      obtain ⟨x, hx⟩ := HX.out
      have HXX := Lib.hid hx
      rw [← hx] at d0 hnew
      clear hx HX
      by_cases hxn : x < n
      · have HNW := Lib.hid (hnew.out hxn)
        clear hnew
        go_wp2
        go_round
        case rel => exact ⟨k + 1, by omega, by go_num, HNW⟩
        case measure => simp [intOf]; omega
      · clear hnew
        by_cases hxe : x = n
        · subst hxe
          have HM : Hid (x ∈ L) := by
            show _
            have hkl : k < L.length := by have := HN.out; omega
            have e : L.getD k 0 = L[k] := by simp [List.getD, hkl]
            rw [HXX.out, e]
            exact List.getElem_mem hkl
          go_wp2
          go_ret
          exact ins_same HO.out HRise.out HM.out
        · have hxe2 : (x == n) = false := by simp [hxe]
          have hkl : k ≤ L.length := by have := HN.out; omega
          have HIN : Hid ((L.take k ++ [n] ++ L.drop k).Pairwise (· < ·)) := rise_in HRise.out hkl hlo.out (fun j h1 h2 => by
            rcases Nat.lt_or_ge k j with g | g
            · have h3 := HGET.out k j g h2
              have h4 := HXX.out
              omega
            · obtain rfl : j = k := by omega
              have h4 := HXX.out
              omega)
          obtain ⟨u1, hsl1, hq1⟩ := que_from (que_owns HO.out) k hkl
          obtain ⟨u2, hsl2, ho2, hb2⟩ := own_take HO.out k hkl
          have htl : (L.take k).length + (L.drop k).length = L.length := by rw [List.length_take, List.length_drop]; omega
          have hal := (Below.refl w.heap.size w).alloc (Nat.le_refl _) (.cells #[] 2)
          have hq2 := que_below hq1 hal
          have hlit : (w.alloc (.cells #[] 2)).ownsRow w.heap.size 2 1 (.slice (some ⟨w.heap.size, 0, none⟩) 0 0) ([] : List Int).length (cellsInt64S []) := World.ownsRow_lit (base := w.heap.size) (e := 2) (size := 1) w #[] 0 (Nat.le_refl _) (Nat.zero_le _) rfl
          have ho3 := owns_below ho2 hal
          have HB2 := Lib.hid hb2
          clear hb2
          have hvlt := fun j (e : (Value.slice (some ⟨g, 0, none⟩) N cap).ownBlock = some j) => (HO.out.lt j e)
          have hnl : N ≤ 4194304 := hl
          have htl2 : (L.take k).length + (L.drop k).length ≤ 4194304 := by have := HN.out; omega
          obtain ⟨PT, hPT⟩ : ∃ PT, PT = L.take k := ⟨_, rfl⟩
          obtain ⟨PD, hPD⟩ : ∃ PD, PD = L.drop k := ⟨_, rfl⟩
          have HME : Hid (∀ x, x ∈ PT ++ [n] ++ PD ↔ x = n ∨ x ∈ L) := fun x => by rw [hPT, hPD]; exact mem_in
          rw [← hPT, ← hPD] at HIN htl2
          rw [← hPT] at ho3
          rw [← hPD] at hq2
          clear hq1 ho2 hkl htl hPT hPD HRise HGET HC hlo hal
          go_wp2_with (at_builtin; refine own_step rfl _ _ rfl w.heap.size (.slice (some ⟨w.heap.size, 0, none⟩) 0 0) u1 [] PD rfl rfl hlit (que_rd hq2) (by simp; omega) (by rw [World.size_alloc]; omega) ?_)
          intro v3 w3 ho4 hg3 hi3
          try rw [List.nil_append] at ho4
          have hw3 : w.grownBy w3 (Value.slice (some ⟨g, 0, none⟩) N cap).ownBlock := grown_into (World.grownBy_alloc w _ _) hg3 (fun j e => Or.inr (by have e2 : w.heap.size = j := Option.some.inj e; omega))
          have hs3 := hw3.size
          have ho5 := owns_grown ho3 hg3 (fun j e h => by have e2 : w.heap.size = j := Option.some.inj e; rw [HB2.out] at h; have := (hvlt j h).2; omega)
          have hv3 := fun j e => (ho4.lt j e).1
          clear hg3 hi3 hlit hq2 ho3 hsl1
          have hlit2 : (w3.alloc (.cells #[.int .i64 n] 2)).ownsRow w3.heap.size 2 1 (.slice (some ⟨w3.heap.size, 0, none⟩) 1 1) [n].length (cellsInt64S [n]) := World.ownsRow_lit (base := w3.heap.size) (e := 2) (size := 1) w3 #[.int .i64 n] 1 (Nat.le_refl _) (by unfold maxLen; omega) rfl
          have hal3 := (Below.refl w3.heap.size w3).alloc (Nat.le_refl _) (.cells #[.int .i64 n] 2)
          have ho6 := owns_below ho5 hal3
          have ho7 := owns_below ho4 hal3
          have hw4 : w.grownBy (w3.alloc (.cells #[.int .i64 n] 2)) (Value.slice (some ⟨g, 0, none⟩) N cap).ownBlock := grown_into hw3 (World.grownBy_alloc w3 _ none) (fun j e => by cases e)
          have hs4 := hw4.size
          clear ho5 ho4 hal3
          go_wp2_with (at_builtin; refine own_step rfl _ _ rfl B u2 (.slice (some ⟨w3.heap.size, 0, none⟩) 1 1) PT [n] rfl rfl ho6 (rd_owns hlit2) (by simp; omega) (by omega) ?_)
          intro v5 w5 ho8 hg5 hi5
          have ho9 := owns_grown ho7 hg5 (fun j e h => by rw [HB2.out] at e; have h1 := (hvlt j e).2; have h2 := hv3 j h; omega)
          have hw5 : w.grownBy w5 (Value.slice (some ⟨g, 0, none⟩) N cap).ownBlock := grown_into hw4 hg5 (fun j e => by rw [HB2.out] at e; exact Or.inl e)
          have hi6 : ∀ j, v5.ownBlock = some j → (Value.slice (some ⟨g, 0, none⟩) N cap).ownBlock = some j ∨ w.heap.size ≤ j := fun j e => by
            rcases hi5 j e with h1 | h1
            · rw [HB2.out] at h1; exact Or.inl h1
            · exact Or.inr (by omega)
          have hs5 := hw5.size
          have HO8 : Hid (w5.ownsRow B 2 1 v5 (PT ++ [n]).length (cellsInt64S (PT ++ [n]))) := by show World.ownsRow _ _ _ _ _ _ _; simpa using ho8
          have HO9 := Lib.hid ho9
          clear hg5 hi5 ho6 ho7 hlit2 ho8 ho9
          go_wp2_with (at_builtin; refine own_step rfl _ _ rfl B v5 v3 (PT ++ [n]) PD rfl rfl HO8.out (rd_owns HO9.out) (by simp; omega) (by omega) ?_)
          intro v7 w7 ho10 hg7 hi7
          have hw7 : w.grownBy w7 (Value.slice (some ⟨g, 0, none⟩) N cap).ownBlock := grown_into hw5 hg7 hi6
          have hi8 : ∀ j, v7.ownBlock = some j → (Value.slice (some ⟨g, 0, none⟩) N cap).ownBlock = some j ∨ w.heap.size ≤ j := fun j e => by
            rcases hi7 j e with h1 | h1
            · exact hi6 j h1
            · exact Or.inr (by omega)
          have HO10 : Hid (w7.ownsRow B 2 1 v7 (PT ++ [n] ++ PD).length (cellsInt64S (PT ++ [n] ++ PD))) := by show World.ownsRow _ _ _ _ _ _ _; simpa using ho10
          clear hg7 hi7 ho10
          go_wp2
          go_ret
          exact ⟨v7, _, rfl, HO10.out, HIN.out, HME.out, hw7, hi8⟩
    · obtain rfl : k = N := by omega
      have hlt0 : ¬ (k : Int) < (k : Int) := by omega
      have hkl : k ≤ L.length := by have := HN.out; omega
      have HIN : Hid ((L.take k ++ [n] ++ L.drop k).Pairwise (· < ·)) := rise_in HRise.out hkl hlo.out (fun j h1 h2 => by have := HN.out; omega)
      obtain ⟨u1, hsl1, hq1⟩ := que_from (que_owns HO.out) k hkl
      obtain ⟨u2, hsl2, ho2, hb2⟩ := own_take HO.out k hkl
      have htl : (L.take k).length + (L.drop k).length = L.length := by rw [List.length_take, List.length_drop]; omega
      have hal := (Below.refl w.heap.size w).alloc (Nat.le_refl _) (.cells #[] 2)
      have hq2 := que_below hq1 hal
      have hlit : (w.alloc (.cells #[] 2)).ownsRow w.heap.size 2 1 (.slice (some ⟨w.heap.size, 0, none⟩) 0 0) ([] : List Int).length (cellsInt64S []) := World.ownsRow_lit (base := w.heap.size) (e := 2) (size := 1) w #[] 0 (Nat.le_refl _) (Nat.zero_le _) rfl
      have ho3 := owns_below ho2 hal
      have HB2 := Lib.hid hb2
      clear hb2
      have hvlt := fun j (e : (Value.slice ao k cap).ownBlock = some j) => (HO.out.lt j e)
      have hnl : k ≤ 4194304 := hl
      have htl2 : (L.take k).length + (L.drop k).length ≤ 4194304 := by have := HN.out; omega
      obtain ⟨PT, hPT⟩ : ∃ PT, PT = L.take k := ⟨_, rfl⟩
      obtain ⟨PD, hPD⟩ : ∃ PD, PD = L.drop k := ⟨_, rfl⟩
      have HME : Hid (∀ x, x ∈ PT ++ [n] ++ PD ↔ x = n ∨ x ∈ L) := fun x => by rw [hPT, hPD]; exact mem_in
      rw [← hPT, ← hPD] at HIN htl2
      rw [← hPT] at ho3
      rw [← hPD] at hq2
      clear hq1 ho2 hkl htl hPT hPD HRise HGET HC hlo hal
      go_wp2_with (at_builtin; refine own_step rfl _ _ rfl w.heap.size (.slice (some ⟨w.heap.size, 0, none⟩) 0 0) u1 [] PD rfl rfl hlit (que_rd hq2) (by simp; omega) (by rw [World.size_alloc]; omega) ?_)
      intro v3 w3 ho4 hg3 hi3
      try rw [List.nil_append] at ho4
      have hw3 : w.grownBy w3 (Value.slice ao k cap).ownBlock := grown_into (World.grownBy_alloc w _ _) hg3 (fun j e => Or.inr (by have e2 : w.heap.size = j := Option.some.inj e; omega))
      have hs3 := hw3.size
      have ho5 := owns_grown ho3 hg3 (fun j e h => by have e2 : w.heap.size = j := Option.some.inj e; rw [HB2.out] at h; have := (hvlt j h).2; omega)
      have hv3 := fun j e => (ho4.lt j e).1
      clear hg3 hi3 hlit hq2 ho3 hsl1
      have hlit2 : (w3.alloc (.cells #[.int .i64 n] 2)).ownsRow w3.heap.size 2 1 (.slice (some ⟨w3.heap.size, 0, none⟩) 1 1) [n].length (cellsInt64S [n]) := World.ownsRow_lit (base := w3.heap.size) (e := 2) (size := 1) w3 #[.int .i64 n] 1 (Nat.le_refl _) (by unfold maxLen; omega) rfl
      have hal3 := (Below.refl w3.heap.size w3).alloc (Nat.le_refl _) (.cells #[.int .i64 n] 2)
      have ho6 := owns_below ho5 hal3
      have ho7 := owns_below ho4 hal3
      have hw4 : w.grownBy (w3.alloc (.cells #[.int .i64 n] 2)) (Value.slice ao k cap).ownBlock := grown_into hw3 (World.grownBy_alloc w3 _ none) (fun j e => by cases e)
      have hs4 := hw4.size
      clear ho5 ho4 hal3
      go_wp2_with (at_builtin; refine own_step rfl _ _ rfl B u2 (.slice (some ⟨w3.heap.size, 0, none⟩) 1 1) PT [n] rfl rfl ho6 (rd_owns hlit2) (by simp; omega) (by omega) ?_)
      intro v5 w5 ho8 hg5 hi5
      have ho9 := owns_grown ho7 hg5 (fun j e h => by rw [HB2.out] at e; have h1 := (hvlt j e).2; have h2 := hv3 j h; omega)
      have hw5 : w.grownBy w5 (Value.slice ao k cap).ownBlock := grown_into hw4 hg5 (fun j e => by rw [HB2.out] at e; exact Or.inl e)
      have hi6 : ∀ j, v5.ownBlock = some j → (Value.slice ao k cap).ownBlock = some j ∨ w.heap.size ≤ j := fun j e => by
        rcases hi5 j e with h1 | h1
        · rw [HB2.out] at h1; exact Or.inl h1
        · exact Or.inr (by omega)
      have hs5 := hw5.size
      have HO8 : Hid (w5.ownsRow B 2 1 v5 (PT ++ [n]).length (cellsInt64S (PT ++ [n]))) := by show World.ownsRow _ _ _ _ _ _ _; simpa using ho8
      have HO9 := Lib.hid ho9
      clear hg5 hi5 ho6 ho7 hlit2 ho8 ho9
      go_wp2_with (at_builtin; refine own_step rfl _ _ rfl B v5 v3 (PT ++ [n]) PD rfl rfl HO8.out (rd_owns HO9.out) (by simp; omega) (by omega) ?_)
      intro v7 w7 ho10 hg7 hi7
      have hw7 : w.grownBy w7 (Value.slice ao k cap).ownBlock := grown_into hw5 hg7 hi6
      have hi8 : ∀ j, v7.ownBlock = some j → (Value.slice ao k cap).ownBlock = some j ∨ w.heap.size ≤ j := fun j e => by
        rcases hi7 j e with h1 | h1
        · exact hi6 j h1
        · exact Or.inr (by omega)
      have HO10 : Hid (w7.ownsRow B 2 1 v7 (PT ++ [n] ++ PD).length (cellsInt64S (PT ++ [n] ++ PD))) := by show World.ownsRow _ _ _ _ _ _ _; simpa using ho10
      clear hg7 hi7 ho10
      go_wp2
      go_ret
      exact ⟨v7, _, rfl, HO10.out, HIN.out, HME.out, hw7, hi8⟩
set_option maxRecDepth 100000 in
theorem l8Children_any (va : Value) (l : List Bl) (d : Int) (w : World) (ha : RdB w va l) (hl : l.length ≤ 1048576) (hs : ∀ p ∈ l, p.2.size ≤ 1048576) :
    Calls Tryz.prog 63 #[va, .int .i64 d] w fun e w' => ∃ v, e = .returned v ∧ w'.ownsRow w.heap.size 2 1 v (belowT (stO l) d).length (cellsInt64S (belowT (stO l) d)) ∧ Below w.heap.size w w' := by
  have hf := l7Find_any va l d w ha hl
  have ho0 : (w.alloc (.cells #[] 2)).ownsRow w.heap.size 2 1 (.slice (some ⟨w.heap.size, 0, none⟩) 0 0) 0 (cellsInt64S []) := World.ownsRow_lit (base := w.heap.size) (e := 2) (size := 1) w #[] 0 (Nat.le_refl _) (Nat.zero_le _) rfl
  have hb0 := (Below.refl w.heap.size w).alloc (Nat.le_refl _) (.cells #[] 2)
  rcases find_cases l d with ⟨k, hk, hfi, hfb, _⟩ | ⟨hfi, hfb, _⟩
  · have hst : stO l d = some (l.getD k bl0).2 := by unfold stO; rw [hfb]; rfl
    rw [hfi] at hf
    obtain ⟨b, off, cap, rfl, d1⟩ : ∃ b off cap, va = .slice (some ⟨b, off, none⟩) l.length cap ∧ w.cell? ⟨b, off + k * 2 + 1, none⟩ = some (.string (l.getD k bl0).2) := by
      rcases rdB_cases ha with ⟨h0, _⟩ | ⟨_, b, off, cap, hv, _, _, hc⟩
      · subst h0; exact absurd hk (Nat.not_lt_zero _)
      · exact ⟨b, off, cap, hv, (hc k hk).2⟩
    have hsz : (l.getD k bl0).2.size ≤ 1048576 := by rw [getD_at hk]; exact hs _ (List.getElem_mem hk)
    obtain ⟨s, hse⟩ : ∃ s, s = (l.getD k bl0).2 := ⟨_, rfl⟩
    rw [← hse] at hst d1 hsz
    have hch := specChildren_any s w hsz
    have e : belowT (stO l) d = (childT s).getD [] := by unfold belowT; rw [hst]
    rw [e]
    unfold ChildEnd at hch
    obtain ⟨R, hR⟩ : ∃ R, R = (childT s).getD [] := ⟨_, rfl⟩
    obtain ⟨r, hr⟩ : ∃ r, r = (childT s).isSome := ⟨_, rfl⟩
    rw [← hR, ← hr] at hch
    rw [← hR]
    have hkI : ¬ (k : Int) < 0 := by omega
    have hkn : (k : Int) < (l.length : Int) := by omega
    generalize l.length = n at hf hkn ⊢
    clear ha e hse hfb hfi hst hR hr ho0 hb0 hk
    go_enter Tryz.func63, Tryz.ntmps63
    go_wp2_with fail
    refine hf.mono ?_
    rintro e w1 ⟨rfl, rfl⟩
    go_wp2_with fail
    refine hch.mono ?_
    rintro e w2 ⟨v2, rfl, ho2, hb2⟩
    clear hch hf
    go_wp2
    go_ret
    exact ⟨_, rfl, ho2, hb2⟩
  · have e : belowT (stO l) d = [] := by unfold belowT stO; rw [hfb]; rfl
    rw [e]
    rw [hfi] at hf
    obtain ⟨ao, cap, rfl⟩ := rdB_shape ha
    generalize l.length = n at hf ⊢
    clear ha e hfb hfi
    go_enter Tryz.func63, Tryz.ntmps63
    go_wp2_with fail
    refine hf.mono ?_
    rintro e w1 ⟨rfl, rfl⟩
    go_wp2
    go_ret
    exact ⟨_, rfl, ho0, hb0⟩
set_option maxRecDepth 100000 in
theorem l1Has_big (va : Value) (l : List Int) (d : Int) (w : World) (ha : Rd w va (cellsInt64S l)) (hl : l.length ≤ 4194304) :
    Calls Tryz.prog 44 #[va, .int .i64 d] w fun e w' => e = .returned (.bool (l.contains d)) ∧ w' = w := by
  have hla : (cellsInt64S l).length = l.length := by simp
  rcases rd_cases ha with ⟨h0, ao, cap, rfl⟩ | ⟨hp, b, off, cap, rfl, _, hlt, hc⟩
  · have hx : l = [] := by simpa using h0
    subst hx
    go_enter Tryz.func44, Tryz.ntmps44
    go_wp2
    refine wp_loop_rounds 1 ?_
    rw [rounds_succ]
    go_wp2
    go_ret
    exact ⟨rfl, rfl⟩
  rw [hla] at hc hp ⊢
  have HA : Hid (∀ j, j < l.length → w.cell? ⟨b, off + j, none⟩ = some (.int .i64 (l.getD j 0))) := fun j hj => (hc j hj).trans (ints_get _ l j hj)
  have HY : Hid (∀ k, k < l.length → l.getD k 0 = d → l.contains d = true) := fun k hk h => by
    have e : l.getD k 0 = l[k] := by simp [List.getD, hk]
    rw [e] at h
    rw [← h]
    simp
  have HN : Hid ((∀ j, j < l.length → l.getD j 0 ≠ d) → l.contains d = false) := fun h => by
    cases hcn : l.contains d with
    | false => rfl
    | true =>
      have hm : d ∈ l := by simpa using hcn
      obtain ⟨j, hj, e⟩ := List.getElem_of_mem hm
      exact absurd (by simp [List.getD, hj, e]) (h j hj)
  generalize l.contains d = r at HY HN ⊢
  obtain ⟨n, hn⟩ : ∃ n, n = l.length := ⟨_, rfl⟩
  rw [← hn] at hp hl HA HY HN ⊢
  clear hc ha hn hla
  go_enter Tryz.func44, Tryz.ntmps44
  go_wp2
  go_loop [5] (fun i => ∃ k : Nat, k ≤ n ∧ i = .int .i64 k ∧ Hid (∀ j, j < k → l.getD j 0 ≠ d)) (fun i => n - (intOf i).toNat)
  case atStart => exact ⟨0, Nat.zero_le _, rfl, fun j h => by omega⟩
  case round =>
    obtain ⟨k, hk, rfl, hno⟩ := hrel
    by_cases hltk : k < n
    focus
      have d0 := HA.out k hltk
      have HYk := Lib.hid (fun h => HY.out k hltk h)
      have hnew : Hid (l.getD k 0 ≠ d → ∀ j, j < k + 1 → l.getD j 0 ≠ d) := fun h j hj => by
        rcases Nat.lt_or_ge j k with g | g
        · exact hno.out j g
        · obtain rfl : j = k := by omega
          exact h
      obtain ⟨x, hx⟩ : ∃ x, x = l.getD k 0 := ⟨_, rfl⟩
      rw [← hx] at d0 HYk hnew
      clear hx hno
      by_cases hxd : x = d
      focus
        have HR := Lib.hid (HYk.out hxd)
        subst hxd
        clear HYk hnew
        go_wp2
        go_ret
        exact ⟨ret_boolS HR.out.symm, rfl⟩
      have HS := Lib.hid (hnew.out hxd)
      have g1 : (x == d) = false := beq_eq_false_iff_ne.2 hxd
      clear HYk hnew
      go_wp2
      go_round
      case rel => exact ⟨k + 1, by omega, by go_num, HS⟩
      case measure => simp [intOf]; omega
    have HR := Lib.hid (HN.out (fun j hj => hno.out j (by omega)))
    go_wp2
    go_ret
    exact ⟨ret_boolS HR.out.symm, rfl⟩
theorem nil_block {n c : Nat} : ∀ k, (Value.slice none n c).ownBlock = some k → False := fun k h => by cases h
set_option maxHeartbeats 4000000 in
set_option maxRecDepth 100000 in
theorem l8Reach_any (va vd : Value) (l : List Bl) (roots : List Int) (w : World) (ha : RdB w va l) (hd : Rd w vd (cellsInt64S roots)) (hl : l.length ≤ 300) (hs : ∀ p ∈ l, p.2.size ≤ 1048576) (hld : roots.length ≤ 1048576) :
    Calls Tryz.prog 38 #[va, vd] w (ReachEnd (IsReach (stO l) roots) w) := by
  have hb0 := (Below.refl w.heap.size w).alloc (Nat.le_refl _) (.cells #[] 2)
  have hs0 := World.size_alloc w (.cells #[] 2)
  have ho0 : (w.alloc (.cells #[] 2)).ownsRow w.heap.size 2 1 (.slice (some ⟨w.heap.size, 0, none⟩) 0 0) ([] : List Int).length (cellsInt64S []) := World.ownsRow_lit (base := w.heap.size) (e := 2) (size := 1) w #[] 0 (Nat.le_refl _) (Nat.zero_le _) rfl
  have ho1 : ((w.alloc (.cells #[] 2)).alloc (.cells #[] 2)).ownsRow (w.alloc (.cells #[] 2)).heap.size 2 1 (.slice (some ⟨(w.alloc (.cells #[] 2)).heap.size, 0, none⟩) 0 0) ([] : List Int).length (cellsInt64S []) := World.ownsRow_lit (base := (w.alloc (.cells #[] 2)).heap.size) (e := 2) (size := 1) (w.alloc (.cells #[] 2)) #[] 0 (Nat.le_refl _) (Nat.zero_le _) rfl
  rw [hs0] at ho1
  have hb1 := hb0.alloc hb0.size (.cells #[] 2)
  have ho2 := ho0.alloc (.cells #[] 2)
  have hq1 := que_owns ho1
  have hd1 := rd_below hd hb1
  have HRA := Lib.hid (fun (W : World) (h : Below w.heap.size w W) => rdB_below ha h)
  have HL : Hid (l.length ≤ 300 ∧ (∀ p ∈ l, p.2.size ≤ 1048576) ∧ roots.length ≤ 1048576) := ⟨hl, hs, hld⟩
  have HO2 := Lib.hid ho2
  have HB1 := Lib.hid hb1
  have hs2 : ((w.alloc (.cells #[] 2)).alloc (.cells #[] 2)).heap.size = w.heap.size + 2 := by rw [World.size_alloc, World.size_alloc]
  have HS2 := Lib.hid hs2
  obtain ⟨ar, cr, hvd⟩ : ∃ ar cr, vd = .slice ar roots.length cr := by
    obtain ⟨ar, cr, h, _⟩ := hd
    rw [List.length_map] at h
    exact ⟨ar, cr, h⟩
  obtain ⟨aa, ca, hva⟩ := rdB_shape ha
  subst hvd
  subst hva
  clear hb0 ho0 hs0 hl hs ho1 ho2 hb1 hs2 hd ha
  go_enter Tryz.func38, Tryz.ntmps38
  go_wp2_with (at_builtin; refine que_step rfl _ _ rfl (.slice (some ⟨w.heap.size + 1, 0, none⟩) 0 0) (.slice ar roots.length cr) [] roots rfl rfl hq1 hd1 (by simp; omega) ?_)
  intro v1 w1 hq2 hg2 hi2
  have hq3 : QueAt w1 v1 roots := hq2
  have ho3 := owns_grown HO2.out hg2 (fun k e h => by have e1 : w.heap.size + 1 = k := Option.some.inj e; have e2 : w.heap.size = k := Option.some.inj h; omega)
  have hb2 : Below w.heap.size w w1 := HB1.out.grown hg2 (by rw [HS2.out]; omega) (fun k e => by have e1 : w.heap.size + 1 = k := Option.some.inj e; omega)
  have hap : ∀ k, (Value.slice (some ⟨w.heap.size, 0, none⟩) 0 0).ownBlock = some k → v1.ownBlock ≠ some k := fun k e h => by
    have e1 : w.heap.size = k := Option.some.inj e
    rcases hi2 k h with h1 | h1
    · have e2 : w.heap.size + 1 = k := Option.some.inj h1
      omega
    · omega
  have hlo : ∀ k, v1.ownBlock = some k → w.heap.size ≤ k := fun k h => by
    rcases hi2 k h with h1 | h1
    · have e2 : w.heap.size + 1 = k := Option.some.inj h1
      omega
    · omega
  have HSI : Hid (SInv (stO l) roots [] roots) := sinv_start _ _
  clear hq1 hd1 hq2 hg2 hi2 HO2 HB1 HS2
  go_wp2
  go_loopg [5, 6] (6 * 1049776 + 1048576) (fun f vo vt ws => ∃ out todo, ws.ownsRow w.heap.size 2 1 vo out.length (cellsInt64S out) ∧ QueAt ws vt todo ∧ (∀ k, vo.ownBlock = some k → vt.ownBlock ≠ some k) ∧ (∀ k, vt.ownBlock = some k → w.heap.size ≤ k) ∧ Hid (SInv (stO l) roots out todo) ∧ 5 * (1049776 - out.length) + todo.length ≤ f ∧ 5 * (1049776 - out.length) + todo.length ≤ 7347232 ∧ Below w.heap.size w ws)
  case atStart => exact ⟨[], roots, ho3, hq3, hap, hlo, HSI, by simp; omega, by simp; omega, hb2⟩
  case round =>
    clear ho3 hq3 hap hlo HSI hb2
    rename World => ws
    obtain ⟨out, todo, ho, hq, hap, hlo, hsi, hms, hmx, hb⟩ := hrel
    have hol : out.length ≤ 1049776 := by
      have h1 := sinv_len hsi.out
      have h2 := HL.out
      omega
    have hws := hb.size
    cases todo with
    | nil =>
      have hvt : ∃ ao cap, u6 = .slice ao 0 cap := que_shape hq
      obtain ⟨at', ct, rfl⟩ := hvt
      have HR := Lib.hid (sinv_end hsi.out)
      have HO := Lib.hid ho
      clear hq hap hlo hsi hms hmx ho hol
      go_wp2
      go_ret
      exact ⟨_, out, rfl, HR.out, HO.out, hb⟩
    | cons d rest =>
      have hql := que_lt hq
      obtain ⟨u, hsl, hqu, hub⟩ := que_tail hq
      obtain ⟨g, off, cap, cur, rfl, hg, hc1, hc2, hc3, hc4⟩ : ∃ g off cap cur, u6 = .slice (some ⟨g, off, none⟩) (rest.length + 1) cap ∧ ws.heap[g]? = some (.cells cur 2 (0, 0)) ∧ (d :: rest).length ≤ cap ∧ cap ≤ maxLen ∧ off + cap ≤ cur.size ∧ (cur.toList.drop off).take (d :: rest).length = cellsInt64S (d :: rest) := by
        rcases hq with ⟨_, h0⟩ | h
        · cases h0
        · exact h
      have hc0 : ws.cell? ⟨g, off, none⟩ = some (.int .i64 d) := by
        have h := que_cell (j := 0) hg hc4 (by simp)
        simpa using h
      have hhas := l1Has_big u5 out d ws (rd_owns ho) (by omega)
      obtain ⟨f, rfl⟩ : ∃ f, gk = f + 1 := ⟨gk - 1, by rw [List.length_cons] at hms; omega⟩
      rw [List.length_cons] at hms hmx
      have HG : Hid ((Value.slice (some ⟨g, off, none⟩) (rest.length + 1) cap).ownBlock = some g) := rfl
      have hgl := hql g rfl
      have hap2 : ∀ k, u5.ownBlock = some k → k ≠ g := fun k e h => hap k e (by rw [h]; rfl)
      have hlg : w.heap.size ≤ g := hlo g rfl
      have hub2 : u.ownBlock = some g := hub
      have HUB := Lib.hid hub2
      obtain ⟨rl, hrl⟩ : ∃ rl, rl = rest.length := ⟨_, rfl⟩
      have HRL := Lib.hid hrl
      rw [← hrl] at hsl hms hmx ⊢
      clear hq hc1 hc2 hc3 hc4 hg hql hub hap hlo hub2 hrl
      cases hcn : out.contains d with
      | true =>
        have hd : d ∈ out := by simpa using hcn
        have HSN := Lib.hid (sinv_has hsi.out hd)
        rw [hcn] at hhas
        have HO := Lib.hid ho
        clear hsi hd hcn ho
        go_wp2_with fail
        refine hhas.mono ?_
        rintro e w2 ⟨rfl, rfl⟩
        clear hhas
        go_wp2
        go_roundg f
        case measure => omega
        case rel => exact ⟨out, rest, HO.out, hqu, fun k e h => hap2 k e (by rw [HUB.out] at h; exact (Option.some.inj h).symm), fun k h => by rw [HUB.out] at h; cases h; exact hlg, HSN, by rw [← HRL.out]; omega, by rw [← HRL.out]; omega, hb⟩
      | false =>
        have hd : ¬ d ∈ out := fun h => by
          have : out.contains d = true := by simpa using h
          rw [hcn] at this
          cases this
        have hput := l1Put_any w.heap.size u5 out d ws ho hsi.out.1 (by omega) hws
        have HLN := Lib.hid (fun (M : List Int) (h1 : M.Pairwise (· < ·)) (h2 : ∀ x, x ∈ M ↔ x = d ∨ x ∈ out) => (⟨nodup_len (l := d :: out) (List.nodup_cons.2 ⟨hd, rise_nodup hsi.out.1⟩) (fun x hx => (h2 x).2 (List.mem_cons.1 hx)), sinv_new hsi.out h1 h2⟩ : (d :: out).length ≤ M.length ∧ SInv (stO l) roots M (rest ++ belowT (stO l) d)))
        rw [hcn] at hhas
        have hvol := fun k (e : u5.ownBlock = some k) => ho.lt k e
        clear hsi hd hcn ho
        go_wp2_with fail
        refine hhas.mono ?_
        rintro e w2 ⟨rfl, rfl⟩
        clear hhas
        go_wp2_with fail
        refine hput.mono ?_
        rintro e w3 ⟨v3, M, rfl, ho3, hM, hmem, hg3, hi3⟩
        obtain ⟨hml, hsi3⟩ := HLN.out M hM hmem
        have hml2 : M.length ≤ 1049776 := by
          have h1 := sinv_len hsi3
          have h2 := HL.out
          omega
        have hqu3 := que_kept hqu hg3 (fun k e h => by rw [HUB.out] at h; exact hap2 k e (Option.some.inj h).symm)
        have hb3 : Below w.heap.size w w3 := hb.grown hg3 hws (fun k e => (hvol k e).1)
        have HSI3 := Lib.hid hsi3
        have hs3 := hg3.size
        have hch := l8Children_any (.slice aa l.length ca) l d w3 (HRA.out w3 hb3) (by have := HL.out.1; omega) HL.out.2.1
        have hcl : (belowT (stO l) d).length ≤ 4 := by
          unfold belowT
          split
          · simp
          · exact child_four _
        obtain ⟨CH, hCH⟩ : ∃ CH, CH = belowT (stO l) d := ⟨_, rfl⟩
        rw [← hCH] at hch hcl HSI3
        have hrl4 : rest.length + CH.length ≤ 16777216 := by
          have := HRL.out
          omega
        have hml3 : out.length + 1 ≤ M.length := by simpa using hml
        clear hput hM hmem HLN hsi3 hqu hCH hml hc0
        go_wp2_with fail
        refine hch.mono ?_
        rintro e w4 ⟨v4, rfl, ho4, hb4⟩
        have hb5 := hb3.trans (hb4.mono hb3.size)
        have hqu4 := que_below hqu3 hb4
        have ho5 := owns_below ho3 hb4
        have hrd4 := rd_owns ho4
        have hs4 := hb4.size
        have hv3 : ∀ k, v3.ownBlock = some k → k ≠ g ∧ k < w3.heap.size := fun k e => by
          refine ⟨?_, (ho3.lt k e).2⟩
          rcases hi3 k e with h1 | h1
          · exact hap2 k h1
          · omega
        obtain ⟨a4, c4, hv4⟩ := owns_slice ho4
        subst hv4
        clear hch ho4 hb4 hqu3 ho3 hb3 hg3 hi3
        go_wp2_with (at_builtin; refine que_step rfl _ _ rfl u (.slice a4 CH.length c4) rest CH rfl rfl hqu4 hrd4 hrl4 ?_)
        intro v6 w6 hq6 hg6 hi6
        have ho6 := owns_grown ho5 hg6 (fun k e h => by rw [HUB.out] at e; exact (hv3 k h).1 (Option.some.inj e).symm)
        have hb6 : Below w.heap.size w w6 := hb5.grown hg6 (by omega) (fun k e => by rw [HUB.out] at e; cases e; exact hlg)
        have hap6 : ∀ k, v3.ownBlock = some k → v6.ownBlock ≠ some k := fun k e h => by
          have h1 := hv3 k e
          rcases hi6 k h with h2 | h2
          · rw [HUB.out] at h2; exact h1.1 (Option.some.inj h2).symm
          · omega
        have hlo6 : ∀ k, v6.ownBlock = some k → w.heap.size ≤ k := fun k h => by
          rcases hi6 k h with h2 | h2
          · rw [HUB.out] at h2; cases h2; exact hlg
          · have := hb5.size
            omega
        have HQ6 := Lib.hid hq6
        have HO6 := Lib.hid ho6
        have HMS : Hid (5 * (1049776 - M.length) + (rest ++ CH).length ≤ f) := by
          show _ ≤ _
          rw [List.length_append, ← HRL.out]
          omega
        have HMX : Hid (5 * (1049776 - M.length) + (rest ++ CH).length ≤ 7347232) := by
          show _ ≤ _
          rw [List.length_append, ← HRL.out]
          omega
        clear hq6 ho6 hqu4 ho5 hrd4 hg6 hi6 hb5 hv3
        go_wp2
        go_roundg f
        case measure => omega
        case rel => exact ⟨M, rest ++ CH, HO6.out, HQ6.out, hap6, hlo6, HSI3, HMS.out, HMX.out, hb6⟩
set_option maxRecDepth 100000 in
theorem specReach_any (va vd : Value) (l : List Bl) (roots : List Int) (w : World) (ha : RdB w va l) (hd : Rd w vd (cellsInt64S roots)) (hl : l.length ≤ 1048576) (hs : ∀ p ∈ l, p.2.size ≤ 1048576) (hld : roots.length ≤ 1048576) :
    Calls Tryz.prog 14 #[va, vd] w (ReachEnd (ReachIs l roots) w) := by
  have hso := specStoreOk_any va l w ha hl hs
  cases hok : storeB l with
  | false =>
    rw [hok] at hso
    obtain ⟨aa, ca, rfl⟩ := rdB_shape ha
    obtain ⟨ar, cr, rfl⟩ : ∃ ar cr, vd = .slice ar (cellsInt64S roots).length cr := by
      obtain ⟨ar, cr, h, _⟩ := hd
      exact ⟨ar, cr, h⟩
    generalize l.length = n at hso ⊢
    generalize (cellsInt64S roots).length = m
    clear ha hd hs
    go_enter Tryz.func14, Tryz.ntmps14
    go_wp2_with fail
    refine hso.mono ?_
    rintro e w1 ⟨rfl, hb1⟩
    have HB := Lib.hid (hb1.alloc hb1.size (.cells #[] 2))
    have HO : Hid ((w1.alloc (.cells #[] 2)).ownsRow w.heap.size 2 1 (.slice (some ⟨w1.heap.size, 0, none⟩) 0 0) ([] : List Int).length (cellsInt64S [])) := World.ownsRow_lit (base := w.heap.size) (e := 2) (size := 1) w1 #[] 0 hb1.size (Nat.zero_le _) rfl
    clear hso hb1
    go_wp2
    go_ret
    exact ⟨_, [], rfl, Or.inl ⟨hok, rfl⟩, HO.out, HB.out⟩
  | true =>
    rw [hok] at hso
    have hl3 := (storeB_iff.1 hok).1
    have HC := Lib.hid (fun (W : World) (h : Below w.heap.size w W) => l8Reach_any va vd l roots W (rdB_below ha h) (rd_below hd h) hl3 hs hld)
    obtain ⟨aa, ca, rfl⟩ := rdB_shape ha
    obtain ⟨ar, cr, rfl⟩ : ∃ ar cr, vd = .slice ar (cellsInt64S roots).length cr := by
      obtain ⟨ar, cr, h, _⟩ := hd
      exact ⟨ar, cr, h⟩
    obtain ⟨n, hn⟩ : ∃ n, n = l.length := ⟨_, rfl⟩
    rw [← hn] at hso HC ⊢
    generalize (cellsInt64S roots).length = m at HC ⊢
    clear ha hd hs hn hl hl3
    go_enter Tryz.func14, Tryz.ntmps14
    go_wp2_with fail
    refine hso.mono ?_
    rintro e w1 ⟨rfl, hb1⟩
    have hc := HC.out w1 hb1
    clear hso HC
    go_wp2_with fail
    refine hc.mono ?_
    rintro e w2 ⟨v, out, rfl, hR, ho, hb2⟩
    have HB := Lib.hid (hb1.trans (hb2.mono hb1.size))
    have HO := Lib.hid (owns_base ho hb1.size)
    have HR := Lib.hid hR
    clear hc hb1 hb2 ho hR
    go_wp2
    go_ret
    exact ⟨v, out, rfl, Or.inr ⟨hok, HR.out⟩, HO.out, HB.out⟩
end Go.Proofs.YtdiammehnakchacGreat
