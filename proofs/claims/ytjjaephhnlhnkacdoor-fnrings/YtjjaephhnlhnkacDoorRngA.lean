/- CONTRACTS: the program's isNode, wrong (of a dot), the test that Without hands on. -/
import Derived.Test.YtjjaephhnlhnkacDoorNDtA
import Derived.Test.YtjjaephhnlhnkacDoorRngM
namespace Go.Proofs.YtjjaephhnlhnkacDoor
open Go.RowKit
set_option linter.unusedVariables false
def isNodeB (x : Int) : Bool := decide (0 ≤ x ∧ x ≤ 15)
theorem isNode_any (x : Int) (w : World) : Calls Tryd.prog 54 #[.int .i64 x] w fun e w' => e = .returned (.bool (isNodeB x)) ∧ w' = w := by
  by_cases h0 : 0 ≤ x
  · by_cases h1 : x ≤ 15
    · have e : isNodeB x = true := decide_eq_true ⟨h0, h1⟩
      rw [e]
      clear e
      go_enter Tryd.func54, Tryd.ntmps54
      go_wp2
      go_ret
      exact ⟨rfl, rfl⟩
    · have e : isNodeB x = false := decide_eq_false (fun h => h1 h.2)
      rw [e]
      clear e
      go_enter Tryd.func54, Tryd.ntmps54
      go_wp2
      go_ret
      exact ⟨rfl, rfl⟩
  · have e : isNodeB x = false := decide_eq_false (fun h => h0 h.1)
    rw [e]
    clear e
    go_enter Tryd.func54, Tryd.ntmps54
    go_wp2
    go_ret
    exact ⟨rfl, rfl⟩
def wrongD (p : Dt) : Bool := decide (p.1 < 0) || decide (65536 ≤ p.1) || !isNodeB p.2
theorem wrongD_no {p : Dt} : wrongD p = false ↔ DotP p := by
  unfold wrongD isNodeB
  simp only [Bool.or_eq_false_iff, decide_eq_false_iff_not, Bool.not_eq_false', decide_eq_true_eq]
  constructor
  · rintro ⟨⟨h1, h2⟩, h3, h4⟩
    exact ⟨⟨by omega, by omega⟩, h3, h4⟩
  · rintro ⟨⟨h1, h2⟩, h3, h4⟩
    exact ⟨⟨by omega, by omega⟩, h3, h4⟩
set_option maxHeartbeats 1000000 in
theorem wrongD_any (x1 x2 : Int) (w : World) :
    Calls Tryd.prog 46 #[.agg #[.int .i64 x1, .int .i64 x2]] w fun e w' => e = .returned (.bool (wrongD (x1, x2))) ∧ Below w.heap.size w w' := by
  have hb := (Below.refl w.heap.size w).alloc (Nat.le_refl _) (.cells #[.int .i64 x1, .int .i64 x2] 51)
  have hcall := Lib.hid (fun W => isNode_any x2 W)
  by_cases h0 : x1 < 0
  · have e : wrongD (x1, x2) = true := by unfold wrongD; simp [h0]
    rw [e]
    clear e
    go_enter Tryd.func46, Tryd.ntmps46
    go_wp2
    go_ret
    exact ⟨rfl, hb⟩
  · by_cases h1 : 65536 ≤ x1
    · have e : wrongD (x1, x2) = true := by unfold wrongD; simp [h1]
      rw [e]
      clear e
      go_enter Tryd.func46, Tryd.ntmps46
      go_wp2
      go_ret
      exact ⟨rfl, hb⟩
    · have e : wrongD (x1, x2) = !isNodeB x2 := by unfold wrongD; simp [h0, h1]
      rw [e]
      clear e
      go_enter Tryd.func46, Tryd.ntmps46
      go_wp2_with fail
      refine (hcall.out _).mono ?_
      rintro e w2 ⟨rfl, rfl⟩
      go_wp2
      go_ret
      exact ⟨rfl, hb⟩
theorem goneD_any (x1 x2 : Int) (q : Nat) (node : Int) (w : World) (hq : q < w.heap.size) (hc : w.cell? ⟨q, 0, none⟩ = some (.int .i64 node)) :
    Calls Tryd.prog 32 #[.agg #[.int .i64 x1, .int .i64 x2], .pointer (some ⟨q, 0, none⟩)] w fun e w' => e = .returned (.bool (decide (x2 = node))) ∧ Below w.heap.size w w' := by
  have hb := (Below.refl w.heap.size w).alloc (Nat.le_refl _) (.cells #[.int .i64 x1, .int .i64 x2] 51)
  have hc2 := (hb.cell (p := ⟨q, 0, none⟩) hq).trans hc
  by_cases h : x2 = node
  · subst h
    rw [decide_eq_true rfl]
    go_enter Tryd.func32, Tryd.ntmps32
    go_wp2
    go_ret
    exact ⟨by simp, hb⟩
  · have e9 : (x2 == node) = false := by simp [h]
    rw [decide_eq_false h]
    go_enter Tryd.func32, Tryd.ntmps32
    go_wp2
    go_ret
    exact ⟨by first | rfl | simp [e9] | (rw [e9]), hb⟩
end Go.Proofs.YtjjaephhnlhnkacDoor
