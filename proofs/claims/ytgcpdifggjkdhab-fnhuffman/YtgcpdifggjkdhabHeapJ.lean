/- CONTRACTS: two groups are joined. -/
import Derived.Test.YtgcpdifggjkdhabHeapC
import Derived.Test.YtgcpdifggjkdhabHeapX
import Derived.Deep.RegionWith
import Derived.Deep.RegionLaw
import Derived.Deep.RegionHeld
import Derived.Laws.Rows
namespace Go.Proofs.Ytgcpdifggjkdhab
open Go.RowKit
set_option linter.unusedVariables false
/-- what the two boxes of joined hold -/
def JS (q c f : Nat) (v1 : Option Addr) (v2 v3 : Nat) (c' f' : Nat) (u1 : Option Addr) (u2 u3 : Nat) (W : World) : Prop :=
  (W.cell? ⟨q, 0, none⟩ = some (.int .i64 (c : Int)) ∧ W.cell? ⟨q, 1, none⟩ = some (.int .i64 (f : Int)) ∧ W.cell? ⟨q, 2, none⟩ = some (.slice v1 v2 v3)) ∧
  (W.cell? ⟨q + 1, 0, none⟩ = some (.int .i64 (c' : Int)) ∧ W.cell? ⟨q + 1, 1, none⟩ = some (.int .i64 (f' : Int)) ∧ W.cell? ⟨q + 1, 2, none⟩ = some (.slice u1 u2 u3))
theorem js_of {q c f : Nat} {v1 : Option Addr} {v2 v3 : Nat} {c' f' : Nat} {u1 : Option Addr} {u2 u3 : Nat} {W : World} {t t' : TypeId} {fr fr' : Nat × Nat} (h1 : W.heap[q]? = some (.cells #[.int .i64 (c : Int), .int .i64 (f : Int), .slice v1 v2 v3] t fr)) (h2 : W.heap[q + 1]? = some (.cells #[.int .i64 (c' : Int), .int .i64 (f' : Int), .slice u1 u2 u3] t' fr')) : JS q c f v1 v2 v3 c' f' u1 u2 u3 W :=
  ⟨⟨cell_of_row W q 0 _ _ _ h1, cell_of_row W q 1 _ _ _ h1, cell_of_row W q 2 _ _ _ h1⟩, ⟨cell_of_row W (q + 1) 0 _ _ _ h2, cell_of_row W (q + 1) 1 _ _ _ h2, cell_of_row W (q + 1) 2 _ _ _ h2⟩⟩
set_option maxHeartbeats 2000000 in
set_option maxRecDepth 100000 in
theorem joined5_any (x y : It) (xs ys : List Int) (w : World) (h1 : Rd w (slV x.2.2) (cellsInt64S xs)) (h2 : Rd w (slV y.2.2) (cellsInt64S ys)) (hx0 : 0 < xs.length) (hy0 : 0 < ys.length) (hl : xs.length + ys.length ≤ 1000)
    (hc : x.1 + y.1 ≤ 1000000000) (hf : x.2.1 ≤ 1000) (hf2 : y.2.1 ≤ 1000) :
    Calls Try.prog 65 #[itV x, itV y] w fun e w' => ∃ s, e = .returned (itV (x.1 + y.1, min x.2.1 y.2.1, s)) ∧ w'.ownsRow w.heap.size 3 1 (slV s) (xs ++ ys).length (cellsInt64S (xs ++ ys)) ∧ Below w.heap.size w w' := by
  obtain ⟨c, f, v1, v2, v3⟩ := x
  obtain ⟨c', f', u1, u2, u3⟩ := y
  have hw1 : Below w.heap.size w (w.alloc (.cells #[.int .i64 (c : Int), .int .i64 (f : Int), .slice v1 v2 v3] 73)) := (Below.refl _ w).alloc (Nat.le_refl _) _
  obtain ⟨cm, hcm⟩ : ∃ cm, cm = c + c' := ⟨_, rfl⟩
  obtain ⟨fm, hfm⟩ : ∃ fm, fm = min f f' := ⟨_, rfl⟩
  have hcI : (c : Int) + (c' : Int) = (cm : Int) := by omega
  have hcb : cm ≤ 1000000000 := by omega
  have hmn : (if f' < f then (f' : Int) else (f : Int)) = (fm : Int) := by
    rw [hfm]
    by_cases h : f' < f
    · rw [if_pos h, Nat.min_eq_right (by omega)]
    · rw [if_neg h, Nat.min_eq_left (by omega)]
  have hwr : IntKind.i64.wrap (cm : Int) = (cm : Int) := IntWalk.i64_in _ ⟨by omega, by omega⟩
  show Calls Try.prog 65 #[.agg #[.int .i64 (c : Int), .int .i64 (f : Int), .slice v1 v2 v3], .agg #[.int .i64 (c' : Int), .int .i64 (f' : Int), .slice u1 u2 u3]] w fun e w' => ∃ s, e = .returned (itV (c + c', min f f', s)) ∧ w'.ownsRow w.heap.size 3 1 (slV s) (xs ++ ys).length (cellsInt64S (xs ++ ys)) ∧ Below w.heap.size w w'
  rw [← hcm, ← hfm]
  have hcon : Hid (∀ W, W = ((((w.alloc (.cells #[.int .i64 (c : Int), .int .i64 (f : Int), .slice v1 v2 v3] 73)).alloc (.cells #[.int .i64 (c' : Int), .int .i64 (f' : Int), .slice u1 u2 u3] 73)).alloc (.cells #[.int .i64 0, .int .i64 0, .slice none 0 0] 73)).alloc (.cells #[.slice v1 v2 v3, .slice u1 u2 u3] 71)).drew →
      Calls Try.prog 97 #[.slice (some ⟨w.heap.size + 1 + 1 + 1, 0, none⟩) 2 2] W fun e w' => ∃ a b d, e = .returned (.slice a b d) ∧ Hid (∀ k0 k1 k2, ((((w'.setCell ⟨w.heap.size + 1 + 1, 0, none⟩ k0).setCell ⟨w.heap.size + 1 + 1, 1, none⟩ k1).setCell ⟨w.heap.size + 1 + 1, 2, none⟩ k2).ownsRow w.heap.size 3 1 (.slice a b d) (xs ++ ys).length (cellsInt64S (xs ++ ys)) ∧ Below w.heap.size w (((w'.setCell ⟨w.heap.size + 1 + 1, 0, none⟩ k0).setCell ⟨w.heap.size + 1 + 1, 1, none⟩ k1).setCell ⟨w.heap.size + 1 + 1, 2, none⟩ k2) ∧ (((w'.setCell ⟨w.heap.size + 1 + 1, 0, none⟩ k0).setCell ⟨w.heap.size + 1 + 1, 1, none⟩ k1).setCell ⟨w.heap.size + 1 + 1, 2, none⟩ k2).heap[w.heap.size + 1 + 1]? = some (.cells #[k0, k1, k2] 73 (0, 0)))) ∧ w'.heap[w.heap.size + 1 + 1]? = some (.cells #[.int .i64 0, .int .i64 0, .slice none 0 0] 73 (0, 0)) ∧ Hid (JS w.heap.size c f v1 v2 v3 c' f' u1 u2 u3 W ∧ JS w.heap.size c f v1 v2 v3 c' f' u1 u2 u3 w' ∧ ∀ k0 k1 k2, JS w.heap.size c f v1 v2 v3 c' f' u1 u2 u3 (((w'.setCell ⟨w.heap.size + 1 + 1, 0, none⟩ k0).setCell ⟨w.heap.size + 1 + 1, 1, none⟩ k1).setCell ⟨w.heap.size + 1 + 1, 2, none⟩ k2))) := fun W hW => by
    have sz : ∀ (X : World) (o : Obj), (X.alloc o).heap.size = X.heap.size + 1 := fun X o => by show (X.heap.push _).size = _; rw [Array.size_push]
    have hbW : Below w.heap.size w W := by
      rw [hW]
      exact (((((Below.refl _ w).alloc (Nat.le_refl _) _).alloc (by rw [sz]; omega) _).alloc (by rw [sz, sz]; omega) _).alloc (by rw [sz, sz, sz]; omega) _).drew
    have hsW : W.heap.size = w.heap.size + 4 := by
      rw [hW]
      show (World.alloc _ _).heap.size = _
      rw [sz, sz, sz, sz]
    have hq : W.heap[w.heap.size + 1 + 1 + 1]? = some (.cells #[.slice v1 v2 v3, .slice u1 u2 u3] 71 (0, 0)) := by
      rw [hW]
      have e := heap_alloc_new (((w.alloc (.cells #[.int .i64 (c : Int), .int .i64 (f : Int), .slice v1 v2 v3] 73)).alloc (.cells #[.int .i64 (c' : Int), .int .i64 (f' : Int), .slice u1 u2 u3] 73)).alloc (.cells #[.int .i64 0, .int .i64 0, .slice none 0 0] 73)) (.cells #[.slice v1 v2 v3, .slice u1 u2 u3] 71)
      rw [sz, sz, sz] at e
      exact e
    have hz : W.heap[w.heap.size + 1 + 1]? = some (.cells #[.int .i64 0, .int .i64 0, .slice none 0 0] 73 (0, 0)) := by
      rw [hW]
      have e := heap_alloc_new ((w.alloc (.cells #[.int .i64 (c : Int), .int .i64 (f : Int), .slice v1 v2 v3] 73)).alloc (.cells #[.int .i64 (c' : Int), .int .i64 (f' : Int), .slice u1 u2 u3] 73)) (.cells #[.int .i64 0, .int .i64 0, .slice none 0 0] 73)
      rw [sz, sz] at e
      exact (Below.heap_alloc _ _ _ (by rw [sz, sz, sz]; omega)).trans e
    have hX : W.heap[w.heap.size]? = some (.cells #[.int .i64 (c : Int), .int .i64 (f : Int), .slice v1 v2 v3] 73 (0, 0)) := by
      rw [hW]
      exact (Below.heap_alloc _ _ _ (by rw [sz, sz, sz]; omega)).trans ((Below.heap_alloc _ _ _ (by rw [sz, sz]; omega)).trans ((Below.heap_alloc _ _ _ (by rw [sz]; omega)).trans (heap_alloc_new w _)))
    have hY : W.heap[w.heap.size + 1]? = some (.cells #[.int .i64 (c' : Int), .int .i64 (f' : Int), .slice u1 u2 u3] 73 (0, 0)) := by
      rw [hW]
      have e := heap_alloc_new (w.alloc (.cells #[.int .i64 (c : Int), .int .i64 (f : Int), .slice v1 v2 v3] 73)) (.cells #[.int .i64 (c' : Int), .int .i64 (f' : Int), .slice u1 u2 u3] 73)
      rw [sz] at e
      exact (Below.heap_alloc _ _ _ (by rw [sz, sz, sz]; omega)).trans ((Below.heap_alloc _ _ _ (by rw [sz, sz]; omega)).trans e)
    have k0 := cell_of_row W (w.heap.size + 1 + 1 + 1) 0 _ _ (0, 0) hq
    have k1 := cell_of_row W (w.heap.size + 1 + 1 + 1) 1 _ _ (0, 0) hq
    refine (concat5_any (w.heap.size + 1 + 1 + 1) _ _ xs ys W (rd_below h1 hbW) (rd_below h2 hbW) hx0 hy0 hl k0 k1 (by omega)).mono ?_
    rintro e w' ⟨v, rfl, ho, hb⟩
    obtain ⟨a, d, rfl⟩ := owns_slice ho
    have hz2 := (hb.block (w.heap.size + 1 + 1) (by omega)).trans hz
    have hX2 := (hb.block w.heap.size (by omega)).trans hX
    have hY2 := (hb.block (w.heap.size + 1) (by omega)).trans hY
    have hbb : Below w.heap.size w w' := hbW.trans (hb.mono (by omega))
    refine ⟨a, _, d, rfl, fun k0 k1 k2 => ⟨?_, ((hbb.setCell (p := ⟨w.heap.size + 1 + 1, 0, none⟩) (by show w.heap.size ≤ w.heap.size + 1 + 1; omega) k0).setCell (p := ⟨w.heap.size + 1 + 1, 1, none⟩) (by show w.heap.size ≤ w.heap.size + 1 + 1; omega) k1).setCell (p := ⟨w.heap.size + 1 + 1, 2, none⟩) (by show w.heap.size ≤ w.heap.size + 1 + 1; omega) k2, by simp [World.setCell, Array.getElem?_modify, hz2]⟩, hz2, js_of hX hY, js_of hX2 hY2, fun k0 k1 k2 => js_of (by rw [Below.heap_setCell _ _ _ _ (show w.heap.size ≠ w.heap.size + 1 + 1 by omega), Below.heap_setCell _ _ _ _ (show w.heap.size ≠ w.heap.size + 1 + 1 by omega), Below.heap_setCell _ _ _ _ (show w.heap.size ≠ w.heap.size + 1 + 1 by omega)]; exact hX2) (by rw [Below.heap_setCell _ _ _ _ (show w.heap.size + 1 ≠ w.heap.size + 1 + 1 by omega), Below.heap_setCell _ _ _ _ (show w.heap.size + 1 ≠ w.heap.size + 1 + 1 by omega), Below.heap_setCell _ _ _ _ (show w.heap.size + 1 ≠ w.heap.size + 1 + 1 by omega)]; exact hY2)⟩
    have hown := owns_base ho (show w.heap.size ≤ W.heap.size by omega)
    refine hown.kept (row := some (w.heap.size + 1 + 1)) ⟨rfl, rfl, rfl, by simp [World.setCell], fun k _ hk => ?_⟩ (Or.inr (fun e => by have := (ho.lt _ e).1; omega))
    have hne : k ≠ w.heap.size + 1 + 1 := fun e => hk (by rw [e])
    rw [Below.heap_setCell _ _ _ _ hne, Below.heap_setCell _ _ _ _ hne, Below.heap_setCell _ _ _ _ hne]
  have hsi : Hid ((Try.prog.info? 73).map (·.size) = some 3) := by
    show _ = _
    kernel_rfl
  clear h1 h2 hcm hfm hw1
  go_enter Try.func65, Try.ntmps65
  go_wp2
  go_region_held (fun W : World => (W.cell? ⟨w.heap.size, 0, none⟩ = some (.int .i64 (c : Int)) ∧ W.cell? ⟨w.heap.size, 1, none⟩ = some (.int .i64 (f : Int)) ∧ W.cell? ⟨w.heap.size, 2, none⟩ = some (.slice v1 v2 v3)) ∧ (W.cell? ⟨w.heap.size + 1, 0, none⟩ = some (.int .i64 (c' : Int)) ∧ W.cell? ⟨w.heap.size + 1, 1, none⟩ = some (.int .i64 (f' : Int)) ∧ W.cell? ⟨w.heap.size + 1, 2, none⟩ = some (.slice u1 u2 u3))) (first | exact hjs.out.2.1 | exact hjs.out.2.2 _ _ _ | go_keep) (first | (go_at_call 97; refine (hcon.out _ rfl).mono ?_; rintro e w2 ⟨a, b, d, rfl, hfin, hz, hjs⟩; have k0 : w2.cell? ⟨w.heap.size + 1 + 1, 0, none⟩ = some (.int .i64 0) := cell_of_row w2 (w.heap.size + 1 + 1) 0 _ _ (0, 0) hz; have k1 : w2.cell? ⟨w.heap.size + 1 + 1, 1, none⟩ = some (.int .i64 0) := cell_of_row w2 (w.heap.size + 1 + 1) 1 _ _ (0, 0) hz; have k2 : w2.cell? ⟨w.heap.size + 1 + 1, 2, none⟩ = some (.slice none 0 0) := cell_of_row w2 (w.heap.size + 1 + 1) 2 _ _ (0, 0) hz; have f0 := Lib.frozen_of_heap hz 0; have f1 := Lib.frozen_of_heap hz 1; have f2 := Lib.frozen_of_heap hz 2; clear hz))
  all_goals
    go_wp2
    refine bodyPost_ret (results_cell_row (by rfl) _ _ (w.heap.size + 1 + 1) 73 #[.int .i64 (cm : Int), .int .i64 (fm : Int), .slice a b d] (0, 0) _ rfl (hfin.out _ _ _).2.2 Try.underlying73 rfl hsi.out) rfl ?_
    exact ⟨(a, b, d), rfl, (hfin.out _ _ _).1, (hfin.out _ _ _).2.1⟩
end Go.Proofs.Ytgcpdifggjkdhab
