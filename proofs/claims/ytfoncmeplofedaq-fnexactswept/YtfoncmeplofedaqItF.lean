/- CONTRACTS: the program's items one by one: isRound, wrong, neverSure, number, own; the items of a shelf. -/
import Derived.Test.YtfoncmeplofedaqShM
import Derived.Test.YtfoncmeplofedaqIsRd
import Derived.Test.YtfoncmeplofedaqIts
import Derived.Test.YtfoncmeplofedaqBlJ
import Derived.Test.YtfoncmeplofedaqItY
namespace Go.Proofs.Ytfoncmeplofedaq
open Go.RowKit
set_option linter.unusedVariables false
def wrongI (p : It) : Bool := !isRoundB p.2.2.1 || decide (p.2.2.2.1 < 0) || decide (p.2.2.1 < p.2.2.2.1) || (p.2.2.2.2 && decide (p.2.2.2.1 < p.2.2.1))
theorem wrongI_no {p : It} : wrongI p = false ↔ itemP p := by
  obtain ⟨d, t, s, k, u⟩ := p
  unfold wrongI isRoundB itemP
  cases u
  · simp only [Bool.or_eq_false_iff, decide_eq_false_iff_not, Bool.not_eq_false', decide_eq_true_eq, Bool.false_and]
    constructor
    · rintro ⟨⟨⟨h1, h2⟩, h3⟩, h4⟩
      exact ⟨h1, ⟨by omega, by omega⟩, fun h => by cases h⟩
    · rintro ⟨h1, h2, h3⟩
      exact ⟨⟨⟨h1, by omega⟩, by omega⟩, trivial⟩
  · simp only [Bool.or_eq_false_iff, decide_eq_false_iff_not, Bool.not_eq_false', decide_eq_true_eq, Bool.true_and]
    constructor
    · rintro ⟨⟨⟨h1, h2⟩, h3⟩, h4⟩
      exact ⟨h1, ⟨by omega, by omega⟩, fun _ => by omega⟩
    · rintro ⟨h1, h2, h3⟩
      have := h3 trivial
      exact ⟨⟨⟨h1, by omega⟩, by omega⟩, by omega⟩
set_option maxHeartbeats 1000000 in
theorem wrongI_any (x1 : Int) (x2 : ByteArray) (x3 x4 : Int) (x5 : Bool) (w : World) :
    Calls Try.prog 59 #[.agg #[.int .i64 x1, .string x2, .int .i64 x3, .int .i64 x4, .bool x5]] w fun e w' => e = .returned (.bool (wrongI (x1, x2, x3, x4, x5))) ∧ Below w.heap.size w w' := by
  have hb := (Below.refl w.heap.size w).alloc (Nat.le_refl _) (.cells #[.int .i64 x1, .string x2, .int .i64 x3, .int .i64 x4, .bool x5] 82)
  have hcall := Lib.hid (fun W => isRound_any x3 W)
  cases hr : isRoundB x3 with
  | false =>
    have e : wrongI (x1, x2, x3, x4, x5) = true := by unfold wrongI; simp [hr]
    rw [e]
    rw [hr] at hcall
    clear e hr
    go_enter Try.func59, Try.ntmps59
    go_wp2_with fail
    refine (hcall.out _).mono ?_
    rintro e w2 ⟨rfl, rfl⟩
    go_wp2
    go_ret
    exact ⟨by first | rfl | simp [*], hb⟩
  | true =>
    rw [hr] at hcall
    by_cases h0 : x4 < 0
    · have e : wrongI (x1, x2, x3, x4, x5) = true := by unfold wrongI; simp [h0]
      rw [e]
      clear e hr
      go_enter Try.func59, Try.ntmps59
      go_wp2_with fail
      refine (hcall.out _).mono ?_
      rintro e w2 ⟨rfl, rfl⟩
      go_wp2
      go_ret
      exact ⟨by first | rfl | simp [*], hb⟩
    · by_cases h1 : x3 < x4
      · have e : wrongI (x1, x2, x3, x4, x5) = true := by unfold wrongI; simp [h1]
        rw [e]
        clear e hr
        go_enter Try.func59, Try.ntmps59
        go_wp2_with fail
        refine (hcall.out _).mono ?_
        rintro e w2 ⟨rfl, rfl⟩
        go_wp2
        go_ret
        exact ⟨by first | rfl | simp [*], hb⟩
      · cases x5 with
        | false =>
          have e : wrongI (x1, x2, x3, x4, false) = false := by unfold wrongI; simp [hr, h0, h1]
          rw [e]
          clear e hr
          go_enter Try.func59, Try.ntmps59
          go_wp2_with fail
          refine (hcall.out _).mono ?_
          rintro e w2 ⟨rfl, rfl⟩
          go_wp2
          go_ret
          exact ⟨by first | rfl | simp [*], hb⟩
        | true =>
          by_cases h2 : x4 < x3
          · have e : wrongI (x1, x2, x3, x4, true) = true := by unfold wrongI; simp [h2]
            rw [e]
            clear e hr
            go_enter Try.func59, Try.ntmps59
            go_wp2_with fail
            refine (hcall.out _).mono ?_
            rintro e w2 ⟨rfl, rfl⟩
            go_wp2
            go_ret
            exact ⟨by first | rfl | simp [*], hb⟩
          · have e : wrongI (x1, x2, x3, x4, true) = false := by unfold wrongI; simp [hr, h0, h1, h2]
            rw [e]
            clear e hr
            go_enter Try.func59, Try.ntmps59
            go_wp2_with fail
            refine (hcall.out _).mono ?_
            rintro e w2 ⟨rfl, rfl⟩
            go_wp2
            go_ret
            exact ⟨by first | rfl | simp [*], hb⟩
theorem meth_numberIt (x : Array Value) (w : World) : (method 252 82 (.agg x) "loop.example/g00260/impl.number").run Try.prog w = .ok (65, .agg x) w := by kernel_rfl
theorem numberIt_any (x1 : Int) (x2 : ByteArray) (x3 x4 : Int) (x5 : Bool) (w : World) :
    Calls Try.prog 65 #[.agg #[.int .i64 x1, .string x2, .int .i64 x3, .int .i64 x4, .bool x5]] w fun e w' => e = .returned (.int .i64 x1) ∧ Below w.heap.size w w' := by
  have hb := (Below.refl w.heap.size w).alloc (Nat.le_refl _) (.cells #[.int .i64 x1, .string x2, .int .i64 x3, .int .i64 x4, .bool x5] 82)
  go_enter Try.func65, Try.ntmps65
  go_wp2_with fail
  refine (blNumber_any x1 x2 _).mono ?_
  rintro e w2 ⟨rfl, hb2⟩
  have hB := hb.trans (hb2.mono hb.size)
  clear hb hb2
  go_wp2
  go_ret
  exact ⟨rfl, hB⟩
theorem meth_ownIt (x : Array Value) (w : World) : (method 252 82 (.agg x) "loop.example/g00260/impl.own").run Try.prog w = .ok (115, .agg x) w := by kernel_rfl
set_option maxHeartbeats 2000000 in
set_option maxRecDepth 100000 in
theorem ownIt_any (x1 : Int) (x2 : ByteArray) (x3 x4 : Int) (x5 : Bool) (w : World) (hx : x2.size ≤ 1048576) :
    Calls Try.prog 115 #[.agg #[.int .i64 x1, .string x2, .int .i64 x3, .int .i64 x4, .bool x5]] w fun e w' => e = .returned (.agg #[.int .i64 x1, .string x2, .int .i64 x3, .int .i64 x4, .bool x5]) ∧ Below w.heap.size w w' := by
  have hcon : Hid (∀ W, W = (w.alloc (.cells #[.int .i64 x1, .string x2, .int .i64 x3, .int .i64 x4, .bool x5] 82)).alloc (.cells #[.int .i64 0, .string ⟨#[]⟩, .int .i64 0, .int .i64 0, .bool false] 82) →
      Calls Try.prog 70 #[.agg #[.int .i64 x1, .string x2]] W fun e w' => e = .returned (.agg #[.int .i64 x1, .string x2]) ∧ Hid (∀ a0 a1 k0 k1 k2 k3 k4 W2, W2 = (((((((w'.setCell ⟨w.heap.size, 0, none⟩ a0).setCell ⟨w.heap.size, 1, none⟩ a1).setCell ⟨w.heap.size + 1, 0, none⟩ k0).setCell ⟨w.heap.size + 1, 1, none⟩ k1).setCell ⟨w.heap.size + 1, 2, none⟩ k2).setCell ⟨w.heap.size + 1, 3, none⟩ k3).setCell ⟨w.heap.size + 1, 4, none⟩ k4) → Below w.heap.size w W2 ∧ W2.heap[w.heap.size + 1]? = some (.cells #[k0, k1, k2, k3, k4] 82 (0, 0))) ∧ w'.heap[w.heap.size + 1]? = some (.cells #[.int .i64 0, .string ⟨#[]⟩, .int .i64 0, .int .i64 0, .bool false] 82 (0, 0)) ∧ w'.heap[w.heap.size]? = some (.cells #[.int .i64 x1, .string x2, .int .i64 x3, .int .i64 x4, .bool x5] 82 (0, 0))) := by
    intro W hW
    have hbW : Below w.heap.size w W := by
      rw [hW]
      exact ((Below.refl _ w).alloc (Nat.le_refl _) _).alloc (by rw [alloc_sizeI]; omega) _
    have hsW : W.heap.size = w.heap.size + 1 + 1 := by rw [hW, alloc_sizeI, alloc_sizeI]
    have hY : W.heap[w.heap.size + 1]? = some (.cells #[.int .i64 0, .string ⟨#[]⟩, .int .i64 0, .int .i64 0, .bool false] 82 (0, 0)) := by
      rw [hW]
      have e := heap_alloc_new (w.alloc (.cells #[.int .i64 x1, .string x2, .int .i64 x3, .int .i64 x4, .bool x5] 82)) (.cells #[.int .i64 0, .string ⟨#[]⟩, .int .i64 0, .int .i64 0, .bool false] 82)
      rw [alloc_sizeI] at e
      exact e
    have hX : W.heap[w.heap.size]? = some (.cells #[.int .i64 x1, .string x2, .int .i64 x3, .int .i64 x4, .bool x5] 82 (0, 0)) := by
      rw [hW]
      exact (Below.heap_alloc _ _ _ (by rw [alloc_sizeI]; omega)).trans (heap_alloc_new w _)
    refine (blOwn_any x1 x2 W (by omega)).mono ?_
    rintro e w' ⟨rfl, hb⟩
    have hY2 := (hb.block (w.heap.size + 1) (by omega)).trans hY
    have hX2 := (hb.block w.heap.size (by omega)).trans hX
    have hbb : Below w.heap.size w w' := hbW.trans (hb.mono (by omega))
    refine ⟨rfl, fun a0 a1 k0 k1 k2 k3 k4 W2 hW2 => ?_, hY2, hX2⟩
    subst hW2
    have q1 : w.heap.size ≤ w.heap.size + 1 := by omega
    exact ⟨(((((((hbb.setCell (p := ⟨w.heap.size, 0, none⟩) (Nat.le_refl _) a0).setCell (p := ⟨w.heap.size, 1, none⟩) (Nat.le_refl _) a1).setCell (p := ⟨w.heap.size + 1, 0, none⟩) q1 k0).setCell (p := ⟨w.heap.size + 1, 1, none⟩) q1 k1).setCell (p := ⟨w.heap.size + 1, 2, none⟩) q1 k2).setCell (p := ⟨w.heap.size + 1, 3, none⟩) q1 k3).setCell (p := ⟨w.heap.size + 1, 4, none⟩) q1 k4), by simp [World.setCell, Array.getElem?_modify, hY2]⟩
  have hsi : Hid ((Try.prog.info? 82).map (·.size) = some 5) := by
    show _ = _
    kernel_rfl
  clear hx
  go_enter Try.func115, Try.ntmps115
  go_wp2_with fail
  refine (hcon.out _ rfl).mono ?_
  rintro e w1 ⟨rfl, hfin, hy, hx⟩
  have c0 := cell_of_row w1 w.heap.size 0 _ _ (0, 0) hx
  have f0 := Lib.frozen_of_heap hx 0
  have y0 := cell_of_row w1 (w.heap.size + 1) 0 _ _ (0, 0) hy
  have g0 := Lib.frozen_of_heap hy 0
  have c1 := cell_of_row w1 w.heap.size 1 _ _ (0, 0) hx
  have f1 := Lib.frozen_of_heap hx 1
  have y1 := cell_of_row w1 (w.heap.size + 1) 1 _ _ (0, 0) hy
  have g1 := Lib.frozen_of_heap hy 1
  have c2 := cell_of_row w1 w.heap.size 2 _ _ (0, 0) hx
  have f2 := Lib.frozen_of_heap hx 2
  have y2 := cell_of_row w1 (w.heap.size + 1) 2 _ _ (0, 0) hy
  have g2 := Lib.frozen_of_heap hy 2
  have c3 := cell_of_row w1 w.heap.size 3 _ _ (0, 0) hx
  have f3 := Lib.frozen_of_heap hx 3
  have y3 := cell_of_row w1 (w.heap.size + 1) 3 _ _ (0, 0) hy
  have g3 := Lib.frozen_of_heap hy 3
  have c4 := cell_of_row w1 w.heap.size 4 _ _ (0, 0) hx
  have f4 := Lib.frozen_of_heap hx 4
  have y4 := cell_of_row w1 (w.heap.size + 1) 4 _ _ (0, 0) hy
  have g4 := Lib.frozen_of_heap hy 4
  clear hy hx hcon
  go_wp2
  refine bodyPost_ret (results_cell_row (by rfl) _ _ (w.heap.size + 1) 82 #[.int .i64 x1, .string x2, .int .i64 x3, .int .i64 x4, .bool x5] (0, 0) _ rfl (hfin.out _ _ _ _ _ _ _ _ rfl).2 Try.underlying82 rfl hsi.out) rfl ?_
  exact ⟨rfl, (hfin.out _ _ _ _ _ _ _ _ rfl).1⟩
theorem shItems_any (r : Int) (va : Value) (w : World) :
    Calls Try.prog 84 #[.agg #[.int .i64 r, va]] w fun e w' => e = .returned va ∧ Below w.heap.size w w' := by
  have hb := (Below.refl w.heap.size w).alloc (Nat.le_refl _) (.cells #[.int .i64 r, va] 29)
  go_enter Try.func84, Try.ntmps84
  go_wp2
  go_ret
  exact ⟨rfl, hb⟩
end Go.Proofs.Ytfoncmeplofedaq
