/- CONTRACT: the program's swept of a right shelf. (Out of what shimpl.py wrote.) -/
import Derived.Test.YtfoncmeplofedaqGreatDoorShG
import Derived.Test.YtfoncmeplofedaqGreatDoorNItDs
import Derived.Test.YtfoncmeplofedaqGreatDoorSetOf
namespace Go.Proofs.YtfoncmeplofedaqGreatDoor
open Go.RowKit
set_option linter.unusedVariables false
theorem swept_list (round : Int) (ms : List Int) (l : List It) : (l.filter fun x => !(goneI round ms) x) = sweptL round ms l := by
  unfold sweptL
  congr 1
  funext x
  exact gone_stay round ms x
set_option maxHeartbeats 4000000 in
set_option maxRecDepth 100000 in
theorem sweptM_any (r : Int) (va : Value) (l : List It) (round : Int) (vm : Value) (ms : List Int) (w : World) (ha : RdG itf 5 w va l) (hm : Rd w vm (cellsInt64S ms)) (hmw : ∀ d ∈ ms, -9223372036854775808 ≤ d ∧ d ≤ 9223372036854775807) (hml : ms.length ≤ 4194304) (hl : l.length ≤ 1048576) (hs : ∀ p ∈ l, p.2.1.size ≤ 1048576) (hS : shelfB r l = true) :
    Calls Tryz.prog 51 #[.agg #[.int .i64 r, va], .int .i64 round, vm] w fun e w' => ∃ v, e = .returned (.tuple #[.agg #[.int .i64 (sweptT r l round ms).1.1, v], .int .i64 (sweptT r l round ms).2]) ∧ OwnI w' w.heap.size v (sweptT r l round ms).1.2 ∧ Below w.heap.size w w' := by
  obtain ⟨W2, hW2⟩ : ∃ W2, W2 = ((w.alloc (.cells #[.int .i64 r, va] 26)).alloc (.cells #[.int .i64 round] 2)).alloc (.cells #[.int .i64 0, .slice none 0 0] 26) := ⟨_, rfl⟩
  have hb2 : Below w.heap.size w W2 := by
    rw [hW2]; exact (((Below.refl w.heap.size w).alloc (Nat.le_refl _) _).alloc (by rw [alloc_sizeI]; omega) _).alloc (by rw [alloc_sizeI, alloc_sizeI]; omega) _
  have hs2 : W2.heap.size = w.heap.size + 1 + 1 + 1 := by rw [hW2, alloc_sizeI, alloc_sizeI, alloc_sizeI]
  have hA : W2.heap[w.heap.size]? = some (.cells #[.int .i64 r, va] 26 (0, 0)) := by
    rw [hW2, Below.heap_alloc _ _ _ (by rw [alloc_sizeI, alloc_sizeI]; omega), Below.heap_alloc _ _ _ (by rw [alloc_sizeI]; omega)]; exact heap_alloc_new w _
  have hR : W2.heap[w.heap.size + 1]? = some (.cells #[.int .i64 round] 2 (0, 0)) := by
    rw [hW2, Below.heap_alloc _ _ _ (by rw [alloc_sizeI, alloc_sizeI]; omega)]
    have e := heap_alloc_new (w.alloc (.cells #[.int .i64 r, va] 26)) (.cells #[.int .i64 round] 2)
    rw [alloc_sizeI] at e
    exact e
  have hZ : W2.heap[w.heap.size + 1 + 1]? = some (.cells #[.int .i64 0, .slice none 0 0] 26 (0, 0)) := by
    rw [hW2]
    have e := heap_alloc_new ((w.alloc (.cells #[.int .i64 r, va] 26)).alloc (.cells #[.int .i64 round] 2)) (.cells #[.int .i64 0, .slice none 0 0] 26)
    rw [alloc_sizeI, alloc_sizeI] at e
    exact e
  have HCE : Hid (∀ wr, Below (w.heap.size + 1 + 1 + 1) W2 wr → wr.cell? ⟨w.heap.size, 0, none⟩ = some (.int .i64 r) ∧ wr.cell? ⟨w.heap.size, 1, none⟩ = some va ∧ wr.cell? ⟨w.heap.size + 1, 0, none⟩ = some (.int .i64 round) ∧ wr.cell? ⟨w.heap.size + 1 + 1, 0, none⟩ = some (.int .i64 0) ∧ wr.cell? ⟨w.heap.size + 1 + 1, 1, none⟩ = some (.slice none 0 0) ∧ wr.frozen? ⟨w.heap.size + 1 + 1, 0, none⟩ = false ∧ wr.frozen? ⟨w.heap.size + 1 + 1, 1, none⟩ = false) := fun wr h => by
    have h1 := (h.block w.heap.size (by omega)).trans hA
    have h3 := (h.block (w.heap.size + 1) (by omega)).trans hR
    have h2 := (h.block (w.heap.size + 1 + 1) (by omega)).trans hZ
    exact ⟨cell_of_row wr _ 0 _ _ (0, 0) h1, cell_of_row wr _ 1 _ _ (0, 0) h1, cell_of_row wr _ 0 _ _ (0, 0) h3, cell_of_row wr _ 0 _ _ (0, 0) h2, cell_of_row wr _ 1 _ _ (0, 0) h2, Lib.frozen_of_heap h2 0, Lib.frozen_of_heap h2 1⟩
  have HFIN : Hid (∀ (w8 : World) (k0 k1 : Value) W3, W3 = (w8.setCell ⟨w.heap.size + 1 + 1, 0, none⟩ k0).setCell ⟨w.heap.size + 1 + 1, 1, none⟩ k1 → Below (w.heap.size + 1 + 1 + 1) W2 w8 → (∀ v L, OwnI w8 (w.heap.size + 1 + 1 + 1) v L → OwnI W3 w.heap.size v L) ∧ Below w.heap.size w W3 ∧ W3.heap[w.heap.size + 1 + 1]? = some (.cells #[k0, k1] 26 (0, 0))) := fun w8 k0 k1 W3 hW3 hb => by
    subst hW3
    have h2 := (hb.block (w.heap.size + 1 + 1) (by omega)).trans hZ
    exact ⟨fun v L ho => own_lower (own_setCell (own_setCell ho (p := ⟨w.heap.size + 1 + 1, 0, none⟩) (by show w.heap.size + 1 + 1 < _; omega) k0) (p := ⟨w.heap.size + 1 + 1, 1, none⟩) (by show w.heap.size + 1 + 1 < _; omega) k1) (by omega), ((hb2.trans (hb.mono (by omega))).setCell (p := ⟨w.heap.size + 1 + 1, 0, none⟩) (by show w.heap.size ≤ w.heap.size + 1 + 1; omega) k0).setCell (p := ⟨w.heap.size + 1 + 1, 1, none⟩) (by show w.heap.size ≤ w.heap.size + 1 + 1; omega) k1, by simp [World.setCell, Array.getElem?_modify, h2]⟩
  have HLO : Hid (∀ wr, Below (w.heap.size + 1 + 1 + 1) W2 wr → Below w.heap.size w wr ∧ w.heap.size + 1 + 1 + 1 ≤ wr.heap.size) := fun wr h => ⟨hb2.trans (h.mono (by omega)), by have := h.size; omega⟩
  have HMQ : Hid (∀ wr, Below (w.heap.size + 1 + 1 + 1) W2 wr → w.heap.size + 1 < wr.heap.size ∧ wr.cell? ⟨w.heap.size + 1, 0, none⟩ = some (.int .i64 round)) := fun wr h => ⟨by have := h.size; omega, (HCE.out wr h).2.2.1⟩
  have HOW : Hid (∀ W, Below (w.heap.size + 1 + 1 + 1) W2 W → Calls Tryz.prog 65 #[.agg #[.int .i64 r, va]] W fun e w' => ∃ v, e = .returned (.agg #[.int .i64 r, v]) ∧ Hid (OwnI w' (w.heap.size + 1 + 1 + 1) v l) ∧ Hid (Below (w.heap.size + 1 + 1 + 1) W2 w')) := fun W hW => by
    refine (shOwn_any r va l W (rdG_below ha (HLO.out W hW).1) hl hs).mono ?_
    rintro e w' ⟨v, rfl, ho, hb⟩
    exact ⟨v, rfl, own_lower ho (HLO.out W hW).2, hW.trans (hb.mono (HLO.out W hW).2)⟩
  have hr0 := (shelfB_iff.1 hS).1
  have hel : ∀ p ∈ l, -9223372036854775808 ≤ p.1 ∧ p.1 ≤ 9223372036854775807 := fun p hp => by
    have h1 := ((storeB_iff.1 (shelfB_iff.1 hS).2.1).2.1 (itB p) (List.mem_map_of_mem hp)).2
    have h2 := digest_in p.2.1
    have h3 : p.1 = digest p.2.1 := h1
    rw [h3]
    omega
  by_cases hlow : round < r
  · have et : sweptT r l round ms = ((r, l), -1) := by unfold sweptT; rw [if_pos hS, if_pos (Or.inl hlow)]
    rw [et]
    have x0 := HCE.out _ (Below.refl _ _)
    rw [hW2] at x0
    obtain ⟨y0, y1, yr, y2, y3, y4, y5⟩ := x0
    obtain ⟨ao, cap, hva⟩ := rdG_shape ha
    have hcp := HOW.out W2 (Below.refl _ _)
    rw [hW2] at hcp
    have HW := Lib.hid hW2
    generalize l.length = nl at hva
    subst hva
    clear hA hR hZ hb2 hs2 ha hW2 hs hS et hm hmw hl hel hr0
    go_enter Tryz.func51, Tryz.ntmps51
    clear HOW
    go_wp2_with fail
    refine hcp.mono ?_
    rintro e w4 ⟨v, rfl, HO4, HB5⟩
    rw [← HW.out] at HB5
    obtain ⟨z0, z1, zr, z2, z3, z4, z5⟩ := HCE.out _ HB5.out
    obtain ⟨bo, bc, hvb⟩ := ownG_shape HO4.out
    have HF := Lib.hid (fun k0 k1 W3 h => HFIN.out w4 k0 k1 W3 h HB5.out)
    subst hvb
    clear hcp HFIN HCE HLO HMQ y0 y1 yr y2 y3 y4 y5
    go_wp2
    refine bodyPost_ret (results_cell_rowT (by rfl) _ _ (w.heap.size + 1 + 1) 26 _ (0, 0) _ rfl (HF.out _ _ _ rfl).2.2 Tryz.underlying26 rfl shelf_size) rfl ?_
    exact ⟨_, rfl, (HF.out _ _ _ rfl).1 _ _ HO4.out, (HF.out _ _ _ rfl).2.1⟩
  by_cases hbad : isRoundB round = false
  · have et : sweptT r l round ms = ((r, l), -1) := by
      unfold sweptT
      rw [if_pos hS, if_pos]
      unfold isRoundB at hbad
      rw [decide_eq_false_iff_not] at hbad
      omega
    rw [et]
    have hin := Lib.hid (fun W => isRound_any round W)
    rw [hbad] at hin
    have x0 := HCE.out _ (Below.refl _ _)
    rw [hW2] at x0
    obtain ⟨y0, y1, yr, y2, y3, y4, y5⟩ := x0
    obtain ⟨ao, cap, hva⟩ := rdG_shape ha
    have hcp := HOW.out W2 (Below.refl _ _)
    rw [hW2] at hcp
    have HW := Lib.hid hW2
    generalize l.length = nl at hva
    subst hva
    clear hA hR hZ hb2 hs2 ha hW2 hs hS et hm hmw hl hel hr0 hbad
    go_enter Tryz.func51, Tryz.ntmps51
    clear HOW
    go_wp2_with fail
    refine (hin.out _).mono ?_
    rintro e w9 ⟨rfl, rfl⟩
    go_wp2_with fail
    refine hcp.mono ?_
    rintro e w4 ⟨v, rfl, HO4, HB5⟩
    rw [← HW.out] at HB5
    obtain ⟨z0, z1, zr, z2, z3, z4, z5⟩ := HCE.out _ HB5.out
    obtain ⟨bo, bc, hvb⟩ := ownG_shape HO4.out
    have HF := Lib.hid (fun k0 k1 W3 h => HFIN.out w4 k0 k1 W3 h HB5.out)
    subst hvb
    clear hcp HFIN HCE HLO HMQ y0 y1 yr y2 y3 y4 y5
    go_wp2
    refine bodyPost_ret (results_cell_rowT (by rfl) _ _ (w.heap.size + 1 + 1) 26 _ (0, 0) _ rfl (HF.out _ _ _ rfl).2.2 Tryz.underlying26 rfl shelf_size) rfl ?_
    exact ⟨_, rfl, (HF.out _ _ _ rfl).1 _ _ HO4.out, (HF.out _ _ _ rfl).2.1⟩
  have hgood : isRoundB round = true := by simpa using hbad
  have et : sweptT r l round ms = ((round, sweptL round ms l), (l.length : Int) - ((sweptL round ms l).length : Int)) := by
    unfold sweptT
    rw [if_pos hS, if_neg]
    unfold isRoundB at hgood
    have h9 := of_decide_eq_true hgood
    omega
  rw [et]
  have hin := Lib.hid (fun W => isRound_any round W)
  rw [hgood] at hin
  have hRl : (sweptL round ms l).length ≤ l.length := swept_len round ms l
  have HSO : Hid (∀ W, Below (w.heap.size + 1 + 1 + 1) W2 W → Calls Tryz.prog 66 #[vm] W fun e w' => ∃ (bm : Nat) (D : DataW Unit), e = .returned (.map (some bm)) ∧ Hid (SetM bm ms.length D w') ∧ Hid (Has D ms) ∧ w.heap.size + 1 + 1 + 1 ≤ bm ∧ bm < w'.heap.size ∧ Hid (Below (w.heap.size + 1 + 1 + 1) W2 w')) := fun W hW => by
    refine (setOf_any vm ms W (rd_below hm (HLO.out W hW).1) hml hmw).mono ?_
    rintro e w' ⟨D, rfl, h1, h2, _, h4, hb⟩
    exact ⟨_, D, rfl, h1, h2, (HLO.out W hW).2, h4, hW.trans (hb.mono (HLO.out W hW).2)⟩
  have HLE : Hid (∀ (W : World) (q2 bm nm : Nat) (D : DataW Unit), Below (w.heap.size + 1 + 1 + 1) W2 W → q2 < W.heap.size → W.cell? ⟨q2, 0, none⟩ = some (.map (some bm)) → bm < W.heap.size → SetM bm nm D W → Has D ms → Calls Tryz.prog 67 #[.agg #[.int .i64 r, va], .func (.func 68) #[] #[.pointer (some ⟨w.heap.size + 1, 0, none⟩), .pointer (some ⟨q2, 0, none⟩)]] W fun e w' => ∃ v, e = .returned (.tuple #[.agg #[.int .i64 r, v], .int .i64 ((l.length : Int) - ((sweptL round ms l).length : Int))]) ∧ OwnI w' (w.heap.size + 1 + 1 + 1) v (sweptL round ms l) ∧ Below (w.heap.size + 1 + 1 + 1) W2 w') := fun W q2 bm nm D hW hq2 hc2 hbm hset hhas => by
    have hmk : Mkd (w.heap.size + 1) q2 bm nm round D W := ⟨HMQ.out W hW, ⟨hq2, hc2⟩, hbm, hset⟩
    refine (less_any r va l _ (sweptL round ms l) W (rdG_below ha (HLO.out W hW).1) hl hs hRl (fun B g W9 hW9 hB hB2 ho => ?_)).mono ?_
    · have h9 := deleteIS_any B g l (w.heap.size + 1) q2 bm nm round ms D W9 ho hl hB2 (mkd_below hmk hW9 hmk.1.1 hq2 hbm) hhas hel (by have := hmk.1.1; omega) (by omega) (by omega)
      rw [swept_list] at h9
      exact h9
    · rintro e w' ⟨v, rfl, ho, hb⟩
      exact ⟨v, rfl, own_lower ho (HLO.out W hW).2, hW.trans (hb.mono (HLO.out W hW).2)⟩
  generalize sweptL round ms l = RL at HLE hRl ⊢
  obtain ⟨rl, hrl⟩ : ∃ n, n = RL.length := ⟨_, rfl⟩
  rw [← hrl] at HLE ⊢
  have HRL := Lib.hid hrl
  obtain ⟨aom, capm, hvm⟩ := rd_shape hm
  generalize (cellsInt64S ms).length = nm9 at hvm
  subst hvm
  clear hrl hm hRl
  focus
    have x0 := HCE.out _ (Below.refl _ _)
    rw [hW2] at x0
    obtain ⟨y0, y1, yr, y2, y3, y4, y5⟩ := x0
    obtain ⟨ao, cap, hva⟩ := rdG_shape ha
    have HW := Lib.hid hW2
    have hc4 := HSO.out W2 (Below.refl _ _)
    rw [hW2] at hc4
    generalize l.length = nl at hva HLE ⊢
    subst hva
    clear hA hR hZ hb2 hs2 ha hW2 hs hS et hmw hel hr0 HOW hbad hgood
    go_enter Tryz.func51, Tryz.ntmps51
    go_wp2_with fail
    refine (hin.out _).mono ?_
    rintro e w9 ⟨rfl, rfl⟩
    clear HSO
    go_wp2_with fail
    refine hc4.mono ?_
    rintro e w4 ⟨bm, D, rfl, HS4, HH4, hbm1, hbm2, HB5⟩
    rw [← HW.out] at HB5
    have HB6 := Lib.hid (HB5.out.alloc (HLO.out _ HB5.out).2 (.cells #[.map (some bm)] 125))
    have hc5 := HLE.out _ w4.heap.size bm ms.length D HB6.out (by rw [World.size_alloc]; omega) (cell_of_row _ w4.heap.size 0 _ _ (0, 0) (heap_alloc_new w4 _)) (by rw [World.size_alloc]; omega) (setM_below HS4.out ((Below.refl _ _).alloc (Nat.le_refl _) _)) HH4.out
    obtain ⟨z0, z1, zr, z2, z3, z4, z5⟩ := HCE.out _ HB6.out
    clear hc4 HLE HS4 HH4 y0 y1 yr y2 y3 y4 y5
    go_wp2_with fail
    refine hc5.mono ?_
    rintro e w5 ⟨v, rfl, ho5, hb5⟩
    have HB5 := Lib.hid hb5
    have HB9 := Lib.hid (hb5.alloc (HLO.out _ hb5).2 (.cells #[.int .i64 round, v] 26))
    have HB7 := Lib.hid (hb5.alloc (HLO.out _ hb5).2 (.cells #[.int .i64 r, v] 26))
    obtain ⟨_, _, yr, _, _, _, _⟩ := HCE.out _ HB7.out
    obtain ⟨_, _, yr9, y2, y3, y4, y5⟩ := HCE.out _ HB9.out
    obtain ⟨_, _, zr, z2, z3, z4, z5⟩ := HCE.out _ HB5.out
    have HF := Lib.hid (fun k0 k1 W3 h => HFIN.out w5 k0 k1 W3 h HB5.out)
    have HO5 := Lib.hid (show ∀ V, V = v → OwnI w5 (w.heap.size + 1 + 1 + 1) V RL from fun V h => by rw [h]; exact ho5)
    have HO9 := Lib.hid (show ∀ V, V = v → OwnI (w5.alloc (.cells #[.int .i64 round, V] 26)) (w.heap.size + 1 + 1 + 1) V RL from fun V h => by rw [h]; exact ho5.alloc _)
    have HF9 := Lib.hid (fun k0 k1 W3 h => HFIN.out _ k0 k1 W3 h HB9.out)
    obtain ⟨bo, bc, hvb⟩ := ownG_shape ho5
    rw [← HRL.out] at hvb
    subst hvb
    clear hc5 hb5 ho5 HCE HFIN HLO HMQ HB6
    go_wp2
    first
    | (refine bodyPost_ret (results_cell_rowT (by rfl) _ _ (w.heap.size + 1 + 1) 26 _ (0, 0) _ rfl (HF9.out _ _ _ rfl).2.2 Tryz.underlying26 rfl shelf_size) rfl ?_; exact ⟨_, rfl, (HF9.out _ _ _ rfl).1 _ _ (HO9.out _ rfl), (HF9.out _ _ _ rfl).2.1⟩)
    | (refine bodyPost_ret (results_cell_rowT (by rfl) _ _ (w.heap.size + 1 + 1) 26 _ (0, 0) _ rfl (HF.out _ _ _ rfl).2.2 Tryz.underlying26 rfl shelf_size) rfl ?_; exact ⟨_, rfl, (HF.out _ _ _ rfl).1 _ _ (HO5.out _ rfl), (HF.out _ _ _ rfl).2.1⟩)
end Go.Proofs.YtfoncmeplofedaqGreatDoor
