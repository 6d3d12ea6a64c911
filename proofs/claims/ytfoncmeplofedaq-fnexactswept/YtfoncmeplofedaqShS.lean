/- CONTRACTS: the specification's shelves: l13Blobs. -/
import Derived.Test.YtfoncmeplofedaqShM
import Derived.Test.YtfoncmeplofedaqIts
import Derived.Test.YtfoncmeplofedaqBlobA
import Derived.Test.YtfoncmeplofedaqStoS
import Derived.Test.YtfoncmeplofedaqIn1
namespace Go.Proofs.Ytfoncmeplofedaq
open Go.RowKit
set_option linter.unusedVariables false
set_option maxHeartbeats 2000000 in
set_option maxRecDepth 100000 in
theorem l13Blobs_any (r : Int) (va : Value) (l : List It) (w : World) (ha : RdG itf 5 w va l) (hl : l.length ≤ 1048576) :
    Calls Try.prog 36 #[.agg #[.int .i64 r, va]] w fun e w' => ∃ v, e = .returned v ∧ w'.ownsRow w.heap.size 80 2 v l.length (blC (itBs l)) ∧ Below w.heap.size w w' := by
  obtain ⟨W1, hW1⟩ : ∃ W1, W1 = w.alloc (.cells #[.int .i64 r, va] 29) := ⟨_, rfl⟩
  have hb1 : Below w.heap.size w W1 := by rw [hW1]; exact (Below.refl w.heap.size w).alloc (Nat.le_refl _) _
  have hs1 : W1.heap.size = w.heap.size + 1 := by rw [hW1]; exact alloc_sizeI _ _
  have hbox : W1.heap[w.heap.size]? = some (.cells #[.int .i64 r, va] 29 (0, 0)) := by rw [hW1]; exact heap_alloc_new w _
  have HBOX : Hid (∀ wr, Below (w.heap.size + 1) W1 wr → wr.cell? ⟨w.heap.size, 1, none⟩ = some va) := fun wr h => cell_of_row wr w.heap.size 1 _ _ (0, 0) ((h.block _ (by omega)).trans hbox)
  have HLOW : Hid (∀ wr, Below (w.heap.size + 1) W1 wr → Below w.heap.size w wr) := fun wr h => hb1.trans (h.mono (by omega))
  have hB0 := (Below.refl (w.heap.size + 1) W1).alloc (Nat.le_of_eq hs1.symm) (.cells #[] 80)
  have ho0 : (W1.alloc (.cells #[] 80)).ownsRow (w.heap.size + 1) 80 2 (.slice (some ⟨w.heap.size + 1, 0, none⟩) 0 0) 0 (blC []) := by
    rw [← hs1]
    exact World.ownsRow_lit (base := W1.heap.size) (e := 80) (size := 2) W1 #[] 0 (Nat.le_refl _) (Nat.zero_le _) rfl
  have hbox2 : (W1.alloc (.cells #[] 80)).cell? ⟨w.heap.size, 1, none⟩ = some va := HBOX.out _ hB0
  have HOE : Hid (∀ (v : Value) (w9 : World), w9.ownsRow (w.heap.size + 1) 80 2 v (itBs l).length (blC (itBs l)) → w9.ownsRow w.heap.size 80 2 v l.length (blC (itBs l))) := fun v w9 h => by
    rw [show (itBs l).length = l.length from List.length_map _] at h
    exact own_lower h (by omega)
  rcases rdG_cases ha with ⟨h0, ao, cap, rfl⟩ | ⟨hp, b, off, cap, rfl, _, hlt, hc⟩
  · subst h0
    rw [hW1] at hB0 ho0 HLOW hbox2
    clear hbox HBOX hb1
    go_enter Try.func36, Try.ntmps36
    go_wp2
    refine wp_loop_rounds 1 ?_
    rw [rounds_succ]
    go_wp2
    go_ret
    exact ⟨_, rfl, HOE.out _ _ ho0, HLOW.out _ hB0⟩
  have HA := Lib.hid hc
  have HF : Hid (∀ k, k < l.length → itBs (l.take (k + 1)) = itBs (l.take k) ++ [itB (l.getD k it0)]) := fun k hk => by
    unfold itBs
    rw [List.take_succ_eq_append_getElem hk, List.map_append, getD_it hk]; rfl
  have HFL : Hid (∀ k, (itBs (l.take k)).length ≤ k) := fun k => by rw [show (itBs (l.take k)).length = (l.take k).length from List.length_map _]; exact List.length_take_le _ _
  have HFE : Hid (itBs l = itBs (l.take l.length)) := by show _ = _; rw [List.take_length]
  have HF0 : Hid (itBs (l.take 0) = []) := rfl
  have HCE : Hid (∀ k wr, k < l.length → Below (w.heap.size + 1) W1 wr → wr.cell? ⟨b, off + k * 5, none⟩ = some (.int .i64 (itB (l.getD k it0)).1) ∧ wr.cell? ⟨b, off + k * 5 + 1, none⟩ = some (.string (itB (l.getD k it0)).2)) := fun k wr hk h => by
    have := it_cells (cellsG_below hc hlt (HLOW.out wr h)) hk
    exact ⟨this.1, this.2.1⟩
  generalize itBs l = R at HFE HOE ⊢
  obtain ⟨F, hF⟩ : ∃ F : Nat → List Bl, F = fun k => itBs (l.take k) := ⟨_, rfl⟩
  have hF' : ∀ k, itBs (l.take k) = F k := fun k => by rw [hF]
  simp only [hF'] at HF HFL HFE HF0
  obtain ⟨n, hn⟩ : ∃ n, n = l.length := ⟨_, rfl⟩
  rw [← hn] at hp hl HF HFE HCE HOE hW1 hbox2 HBOX ⊢
  have HW := Lib.hid hW1
  have HBX := HBOX
  clear hc hn hF hF' HA ha hbox hb1 HBOX
  have HSZ : Hid (∀ wr, Below (w.heap.size + 1) W1 wr → w.heap.size + 1 ≤ wr.heap.size) := fun wr h => by have := h.size; omega
  rw [hW1] at hB0 ho0 hbox2
  clear hW1
  have HB0 := Lib.hid hB0
  clear hB0
  go_enter Try.func36, Try.ntmps36
  go_wp2
  go_loopw [3, 4] (fun v i wr => ∃ k : Nat, k ≤ n ∧ i = .int .i64 k ∧ wr.ownsRow (w.heap.size + 1) 80 2 v (F k).length (blC (F k)) ∧ Hid (Below (w.heap.size + 1) W1 wr) ∧ wr.cell? ⟨w.heap.size, 1, none⟩ = some (.slice (some ⟨b, off, none⟩) n cap)) (fun _ i _ => n - (intOf i).toNat)
  case atStart => exact ⟨0, Nat.zero_le _, rfl, by rw [HF0.out]; exact ho0, by rw [HW.out]; exact HB0.out, hbox2⟩
  case round =>
    obtain ⟨k, hk, rfl, ho, hb, hx⟩ := hrel
    clear ho0 hbox2
    by_cases hltk : k < n
    focus
      obtain ⟨d0, d1⟩ := HCE.out k _ hltk hb.out
      have HFk : Hid (F (k + 1) = F k ++ [((l.getD k it0).1, (l.getD k it0).2.1)]) := HF.out k hltk
      have hfl := HFL.out k
      have hsz := HSZ.out _ hb.out
      obtain ⟨x1, h1⟩ : ∃ x, x = (l.getD k it0).1 := ⟨_, rfl⟩
      obtain ⟨x2, h2⟩ : ∃ x, x = (l.getD k it0).2.1 := ⟨_, rfl⟩
      rw [← h1] at d0 HFk
      rw [← h2] at d1 HFk
      clear h1 h2
      obtain ⟨acc, hacc⟩ : ∃ acc, acc = F k := ⟨_, rfl⟩
      rw [← hacc] at ho HFk hfl
      clear hacc
      go_wp2_with (at_builtin; refine wpList_append_blobs rfl _ _ rfl (w.heap.size + 1) _ acc [(x1, x2)] _ rfl rfl (ho.alloc _) (rdB_one _ (x1, x2) 80) (by rw [List.length_singleton]; omega) (by rw [World.size_alloc]; omega) ?_)
      intro v3 w3 ho3 hg3
      have hb3 : Hid (Below (w.heap.size + 1) W1 w3) := (hb.out.alloc hsz _).grown hg3 (by simp; omega) (fun k hk => (ho.lt k hk).1)
      have ho4 : w3.ownsRow (w.heap.size + 1) 80 2 v3 (F (k + 1)).length (blC (F (k + 1))) := by
        rw [HFk.out, List.length_append]
        exact ho3
      have hx3 := HBX.out _ hb3.out
      clear ho3 hg3 ho hb d0 d1 hx
      go_wp2
      go_roundw
      case rel => exact ⟨k + 1, by omega, by go_num, ho4, hb3, hx3⟩
      case measure => simp [intOf]; omega
    obtain rfl : k = n := by omega
    rw [← HFE.out] at ho
    have hO := HOE.out _ _ ho
    go_wp2
    go_ret
    exact ⟨_, rfl, hO, HLOW.out _ hb.out⟩
theorem itemP_iff (p : It) : itemP p ↔ ((decide (0 ≤ p.2.2.1) && decide (p.2.2.1 ≤ 100000)) = true ∧ (decide (0 ≤ p.2.2.2.1) && decide (p.2.2.2.1 ≤ p.2.2.1)) = true ∧ (p.2.2.2.2 = true → p.2.2.2.1 = p.2.2.1)) := by
  simp [itemP]
set_option maxHeartbeats 4000000 in
set_option maxRecDepth 100000 in
theorem specShelfOk_any (r : Int) (va : Value) (l : List It) (w : World) (ha : RdG itf 5 w va l) (hl : l.length ≤ 1048576) (hs : ∀ p ∈ l, p.2.1.size ≤ 1048576) :
    Calls Try.prog 26 #[.agg #[.int .i64 r, va]] w fun e w' => e = .returned (.bool (shelfB r l)) ∧ Below w.heap.size w w' := by
  have HNR : Hid ((decide (0 ≤ r) && decide (r ≤ 100000)) = false → shelfB r l = false) := fun h => by
    unfold shelfB
    rw [decide_eq_false (fun h2 => by simp [h2] at h), Bool.false_and]
  have HNS : Hid (storeB (itBs l) = false → shelfB r l = false) := fun h => by
    unfold shelfB
    rw [h, Bool.false_and, Bool.and_false]
  have HNO : Hid (∀ i, i < l.length → ¬ itemP (l.getD i it0) → shelfB r l = false) := fun i hi h => shelfB_at hi h
  have HYES : Hid ((decide (0 ≤ r) && decide (r ≤ 100000)) = true → storeB (itBs l) = true → (∀ i, i < l.length → itemP (l.getD i it0)) → shelfB r l = true) := fun h1 h2 h => shelfB_all (by simpa using h1) h2 h
  obtain ⟨W1, hW1⟩ : ∃ W1, W1 = w.alloc (.cells #[.int .i64 r, va] 29) := ⟨_, rfl⟩
  have hb1 : Below w.heap.size w W1 := by rw [hW1]; exact (Below.refl w.heap.size w).alloc (Nat.le_refl _) _
  have hs1 : W1.heap.size = w.heap.size + 1 := by rw [hW1]; exact alloc_sizeI _ _
  have hbox : W1.heap[w.heap.size]? = some (.cells #[.int .i64 r, va] 29 (0, 0)) := by rw [hW1]; exact heap_alloc_new w _
  have HBOX : Hid (∀ wr, Below (w.heap.size + 1) W1 wr → wr.cell? ⟨w.heap.size, 1, none⟩ = some va) := fun wr h => cell_of_row wr w.heap.size 1 _ _ (0, 0) ((h.block _ (by omega)).trans hbox)
  have HLOW : Hid (∀ wr, Below (w.heap.size + 1) W1 wr → Below w.heap.size w wr) := fun wr h => hb1.trans (h.mono (by omega))
  have HSZ : Hid (∀ wr, Below (w.heap.size + 1) W1 wr → w.heap.size + 1 ≤ wr.heap.size) := fun wr h => by have := h.size; omega
  have HBL : Hid (∀ W, W = W1 → Calls Try.prog 36 #[.agg #[.int .i64 r, va]] W fun e w' => ∃ v, e = .returned v ∧ Hid (w'.ownsRow (w.heap.size + 1) 80 2 v l.length (blC (itBs l))) ∧ Hid (Below (w.heap.size + 1) W1 w')) := by
    intro W hW
    rw [hW]
    have h := l13Blobs_any r va l W1 (rdG_below ha hb1) hl
    rw [hs1] at h
    refine h.mono ?_
    rintro e w' ⟨v, rfl, h1, h2⟩
    exact ⟨v, rfl, h1, h2⟩
  have HST : Hid (∀ (W : World) (v : Value), W.ownsRow (w.heap.size + 1) 80 2 v l.length (blC (itBs l)) → Below (w.heap.size + 1) W1 W → Calls Try.prog 54 #[v] W fun e w' => e = .returned (.bool (storeB (itBs l))) ∧ Hid (Below (w.heap.size + 1) W1 w')) := fun W v h hB => by
    have hlen : (itBs l).length = l.length := List.length_map _
    refine (specStoreOk_any v (itBs l) W (rdB_owns (by rw [hlen]; exact h)) (by rw [hlen]; omega) (fun p hp => ?_)).mono ?_
    · obtain ⟨q, hq, rfl⟩ := List.mem_map.1 hp
      exact hs q hq
    · rintro e w' ⟨rfl, hb⟩
      exact ⟨rfl, hB.trans (hb.mono (by have := hB.size; omega))⟩
  have hin := l1InB_any r 0 100000
  cases hA : (decide (0 ≤ r) && decide (r ≤ 100000)) with
  | false =>
    rw [HNR.out hA]
    rw [hA] at hin
    rw [hW1] at HLOW
    have hfin := HLOW.out _ (Below.refl _ _)
    clear HNR HNS HNO HYES HBOX HLOW HSZ HBL HST hbox hb1 hs1
    obtain ⟨ao, cap, rfl⟩ := rdG_shape ha
    go_enter Try.func26, Try.ntmps26
    go_wp2_with fail
    refine (hin _).mono ?_
    rintro e w8 ⟨rfl, rfl⟩
    go_wp2
    go_ret
    exact ⟨rfl, hfin⟩
  | true =>
    rw [hA] at hin
    have HW := Lib.hid hW1.symm
    clear HNR hbox hb1 hs1
    cases hS : storeB (itBs l) with
    | false =>
      rw [HNS.out hS]
      rw [hS] at HST
      clear HNS HNO HYES HBOX HSZ hA
      obtain ⟨ao, cap, rfl⟩ := rdG_shape ha
      clear ha hs hW1
      go_enter Try.func26, Try.ntmps26
      go_wp2_with fail
      refine (hin _).mono ?_
      rintro e w8 ⟨rfl, rfl⟩
      go_wp2_with fail
      refine (HBL.out _ HW.out).mono ?_
      rintro e w2 ⟨v2, rfl, ho2, hb2⟩
      have HC := Lib.hid (HST.out w2 v2 ho2.out hb2.out)
      clear HST HBL
      go_wp2_with fail
      refine HC.out.mono ?_
      rintro e w3 ⟨rfl, hb3⟩
      clear HC
      go_wp2
      go_ret
      exact ⟨rfl, HLOW.out _ hb3.out⟩
    | true =>
      rw [hS] at HST
      have HYE := Lib.hid (HYES.out hA hS)
      clear HNS HYES hA hS hs
      rcases rdG_cases ha with ⟨h0, ao, cap, rfl⟩ | ⟨hp, b, off, cap, rfl, _, hlt, hc⟩
      · subst h0
        have hy := HYE.out (fun i hi => absurd hi (Nat.not_lt_zero _))
        rw [hy]
        have HBX := HBOX
        clear ha hW1 HYE HNO HBOX
        go_enter Try.func26, Try.ntmps26
        go_wp2_with fail
        refine (hin _).mono ?_
        rintro e w8 ⟨rfl, rfl⟩
        go_wp2_with fail
        refine (HBL.out _ HW.out).mono ?_
        rintro e w2 ⟨v2, rfl, ho2, hb2⟩
        have HC := Lib.hid (HST.out w2 v2 ho2.out hb2.out)
        clear HST HBL
        go_wp2_with fail
        refine HC.out.mono ?_
        rintro e w3 ⟨rfl, hb3⟩
        have hx := HBX.out _ hb3.out
        clear HC
        go_wp2
        refine wp_loop_rounds 1 ?_
        rw [rounds_succ]
        go_wp2
        go_ret
        exact ⟨rfl, HLOW.out _ hb3.out⟩
      have HCE : Hid (∀ k wr, k < l.length → Below (w.heap.size + 1) W1 wr → wr.cell? ⟨b, off + k * 5, none⟩ = some (.int .i64 (l.getD k it0).1) ∧ wr.cell? ⟨b, off + k * 5 + 1, none⟩ = some (.string (l.getD k it0).2.1) ∧ wr.cell? ⟨b, off + k * 5 + 2, none⟩ = some (.int .i64 (l.getD k it0).2.2.1) ∧ wr.cell? ⟨b, off + k * 5 + 3, none⟩ = some (.int .i64 (l.getD k it0).2.2.2.1) ∧ wr.cell? ⟨b, off + k * 5 + 4, none⟩ = some (.bool (l.getD k it0).2.2.2.2)) := fun k wr hk h => it_cells (cellsG_below hc hlt (HLOW.out wr h)) hk
      generalize shelfB r l = res at HNO HYE ⊢
      obtain ⟨n, hn⟩ : ∃ n, n = l.length := ⟨_, rfl⟩
      rw [← hn] at hp hl HNO HYE HCE HBL HST HBOX HW ⊢
      have HBX := HBOX
      clear hc hn ha HBOX hW1 hlt
      go_enter Try.func26, Try.ntmps26
      go_wp2_with fail
      refine (hin _).mono ?_
      rintro e w8 ⟨rfl, rfl⟩
      go_wp2_with fail
      refine (HBL.out _ HW.out).mono ?_
      rintro e w2 ⟨v2, rfl, ho2, hb2⟩
      have HC := Lib.hid (HST.out w2 v2 ho2.out hb2.out)
      clear HST HBL
      go_wp2_with fail
      refine HC.out.mono ?_
      rintro e w3 ⟨rfl, hb3⟩
      have hx3 := HBX.out _ hb3.out
      clear HC ho2 hb2 hin
      go_wp2
      go_loopw [3] (fun i wr => ∃ k : Nat, k ≤ n ∧ i = .int .i64 k ∧ Hid (∀ j, j < k → itemP (l.getD j it0)) ∧ Hid (Below (w.heap.size + 1) W1 wr) ∧ wr.cell? ⟨w.heap.size, 1, none⟩ = some (.slice (some ⟨b, off, none⟩) n cap)) (fun i _ => n - (intOf i).toNat)
      case atStart => exact ⟨0, Nat.zero_le _, rfl, fun j h => absurd h (Nat.not_lt_zero _), hb3, hx3⟩
      case round =>
        obtain ⟨k, hk, rfl, hok, hb, hx⟩ := hrel
        clear hb3 hx3
        by_cases hltk : k < n
        focus
          obtain ⟨d0, d1, d2, d3, d4⟩ := HCE.out k _ hltk hb.out
          have HNk := Lib.hid (HNO.out k hltk)
          have HNW : Hid (itemP (l.getD k it0) → ∀ j, j < k + 1 → itemP (l.getD j it0)) := fun e j hj => by
            rcases Nat.lt_or_ge j k with g | g
            · exact hok.out j g
            · obtain rfl : j = k := by omega
              exact e
          obtain ⟨x, hxx⟩ : ∃ x, x = l.getD k it0 := ⟨_, rfl⟩
          rw [← hxx] at d0 d1 d2 d3 d4 HNk HNW
          obtain ⟨x1, x2, x3, x4, x5⟩ := x
          simp only at d0 d1 d2 d3 d4
          clear hxx hok
          have hq1 := l1InB_any x3 0 100000
          have hq2 := l1InB_any x4 0 x3
          have HIF : Hid (itemP (x1, x2, x3, x4, x5) ↔ ((decide (0 ≤ x3) && decide (x3 ≤ 100000)) = true ∧ (decide (0 ≤ x4) && decide (x4 ≤ x3)) = true ∧ (x5 = true → x4 = x3))) := itemP_iff _
          have HSZk := HSZ.out _ hb.out
          have HBn : Hid (Below (w.heap.size + 1) W1 (World.alloc wr (.cells #[.int .i64 x1, .string x2, .int .i64 x3, .int .i64 x4, .bool x5] 82))) := hb.out.alloc HSZk _
          have HFn : Hid (Below w.heap.size w (World.alloc wr (.cells #[.int .i64 x1, .string x2, .int .i64 x3, .int .i64 x4, .bool x5] 82))) := HLOW.out _ HBn.out
          have HXn := Lib.hid (HBX.out _ HBn.out)
          clear hb HSZk
          cases hq : (decide (0 ≤ x3) && decide (x3 ≤ 100000)) with
          | false =>
            have HR := Lib.hid (HNk.out (fun h => by have := (HIF.out.1 h).1; rw [hq] at this; cases this))
            rw [hq] at hq1
            clear HNk HNW HIF hq hq2
            go_wp2_with fail
            refine (hq1 _).mono ?_
            rintro e w9 ⟨rfl, rfl⟩
            go_wp2
            go_ret
            exact ⟨ret_boolS HR.out.symm, HFn.out⟩
          | true =>
          rw [hq] at hq1
          cases hr : (decide (0 ≤ x4) && decide (x4 ≤ x3)) with
          | false =>
            have HR := Lib.hid (HNk.out (fun h => by have := (HIF.out.1 h).2.1; rw [hr] at this; cases this))
            rw [hr] at hq2
            clear HNk HNW HIF hq hr
            go_wp2_with fail
            refine (hq1 _).mono ?_
            rintro e w9 ⟨rfl, rfl⟩
            go_wp2_with fail
            refine (hq2 _).mono ?_
            rintro e w9 ⟨rfl, rfl⟩
            go_wp2
            go_ret
            exact ⟨ret_boolS HR.out.symm, HFn.out⟩
          | true =>
          rw [hr] at hq2
          cases x5 with
          | false =>
            have HOK := Lib.hid (HNW.out (HIF.out.2 ⟨hq, hr, fun h => by cases h⟩))
            clear HNk HNW HIF hq hr
            go_wp2_with fail
            refine (hq1 _).mono ?_
            rintro e w9 ⟨rfl, rfl⟩
            go_wp2_with fail
            refine (hq2 _).mono ?_
            rintro e w9 ⟨rfl, rfl⟩
            go_wp2
            go_roundw
            case rel => exact ⟨k + 1, by omega, by go_num, HOK, HBn, HXn.out⟩
            case measure => simp [intOf]; omega
          | true =>
          by_cases he : x4 = x3
          focus
            subst he
            have HOK := Lib.hid (HNW.out (HIF.out.2 ⟨hq, hr, fun _ => rfl⟩))
            clear HNk HNW HIF hq hr
            go_wp2_with fail
            refine (hq1 _).mono ?_
            rintro e w9 ⟨rfl, rfl⟩
            go_wp2_with fail
            refine (hq2 _).mono ?_
            rintro e w9 ⟨rfl, rfl⟩
            go_wp2
            go_roundw
            case rel => exact ⟨k + 1, by omega, by go_num, HOK, HBn, HXn.out⟩
            case measure => simp [intOf]; omega
          have HR := Lib.hid (HNk.out (fun h => he ((HIF.out.1 h).2.2 rfl)))
          clear HNk HNW HIF hq hr
          go_wp2_with fail
          refine (hq1 _).mono ?_
          rintro e w9 ⟨rfl, rfl⟩
          go_wp2_with fail
          refine (hq2 _).mono ?_
          rintro e w9 ⟨rfl, rfl⟩
          go_wp2
          go_ret
          exact ⟨ret_boolS HR.out.symm, HFn.out⟩
        obtain rfl : k = n := by omega
        have HR := Lib.hid (HYE.out hok.out)
        go_wp2
        go_ret
        exact ⟨ret_boolS HR.out.symm, HLOW.out _ hb.out⟩
end Go.Proofs.Ytfoncmeplofedaq
