/- CONTRACT: the test that Swept hands on: what goes (its round and its set of marks lie in boxes). -/
import Derived.Test.YtfoncmeplofedaqGreatDoorBunb
import Derived.Test.YtfoncmeplofedaqGreatDoorNumSet
namespace Go.Proofs.YtfoncmeplofedaqGreatDoor
open Go.RowKit Go.Maps
set_option linter.unusedVariables false
def goneI (round : Int) (ms : List Int) (p : It) : Bool := decide (p.2.2.1 < round) && !ms.contains p.1
theorem gone_stay (round : Int) (ms : List Int) (p : It) : (!goneI round ms p) = stayP round ms p := by
  unfold goneI stayP
  by_cases h : p.2.2.1 < round
  · rw [decide_eq_true h, decide_eq_false (by omega), Bool.true_and, Bool.false_or, Bool.not_not]
  · rw [decide_eq_false h, decide_eq_true (by omega), Bool.false_and, Bool.true_or]; rfl
/-- the boxes of the round and of the marks -/
def Mkd (q q2 bm nm : Nat) (round : Int) (D : DataW Unit) (w : World) : Prop :=
  (q < w.heap.size ∧ w.cell? ⟨q, 0, none⟩ = some (.int .i64 round)) ∧ (q2 < w.heap.size ∧ w.cell? ⟨q2, 0, none⟩ = some (.map (some bm))) ∧ bm < w.heap.size ∧ SetM bm nm D w
theorem mkd_below {q q2 bm nm B : Nat} {round : Int} {D : DataW Unit} {w w' : World} (h : Mkd q q2 bm nm round D w) (hb : Below B w w') (h1 : q < B) (h2 : q2 < B) (h3 : bm < B) : Mkd q q2 bm nm round D w' := by
  obtain ⟨⟨a1, a2⟩, ⟨b1, b2⟩, c1, c2⟩ := h
  have hs := hb.size
  refine ⟨⟨by omega, (hb.cell (p := ⟨q, 0, none⟩) h1).trans a2⟩, ⟨by omega, (hb.cell (p := ⟨q2, 0, none⟩) h2).trans b2⟩, by omega, ?_⟩
  obtain ⟨es, clock, e1, e2⟩ := c2
  exact ⟨es, clock, (hb.block bm h3).trans e1, e2⟩
set_option maxHeartbeats 4000000 in
set_option maxRecDepth 100000 in
theorem sweptGone_any (x1 : Int) (x2 : ByteArray) (x3 x4 : Int) (x5 : Bool) (q q2 bm nm : Nat) (round : Int) (ms : List Int) (D : DataW Unit) (w : World) (hmk : Mkd q q2 bm nm round D w) (hhas : Has D ms) (hx : -9223372036854775808 ≤ x1 ∧ x1 ≤ 9223372036854775807) :
    Calls Tryz.prog 68 #[.agg #[.int .i64 x1, .string x2, .int .i64 x3, .int .i64 x4, .bool x5], .pointer (some ⟨q, 0, none⟩), .pointer (some ⟨q2, 0, none⟩)] w fun e w' => e = .returned (.bool (goneI round ms (x1, x2, x3, x4, x5))) ∧ Below w.heap.size w w' := by
  obtain ⟨W0, hW0⟩ : ∃ W0, W0 = w.alloc (.cells #[.int .i64 x1, .string x2, .int .i64 x3, .int .i64 x4, .bool x5] 69) := ⟨_, rfl⟩
  have hb0 : Below w.heap.size w W0 := by rw [hW0]; exact (Below.refl _ _).alloc (Nat.le_refl _) _
  have hbx : W0.heap[w.heap.size]? = some (.cells #[.int .i64 x1, .string x2, .int .i64 x3, .int .i64 x4, .bool x5] 69 (0, 0)) := by rw [hW0]; exact heap_alloc_new w _
  have hs0 : w.heap.size < W0.heap.size := by rw [hW0, World.size_alloc]; omega
  have hmk0 := mkd_below hmk hb0 hmk.1.1 hmk.2.1.1 hmk.2.2.1
  have HCB : Hid (∀ W, Below W0.heap.size W0 W → (W.cell? ⟨w.heap.size, 0, none⟩ = some (.int .i64 x1) ∧ W.cell? ⟨w.heap.size, 1, none⟩ = some (.string x2) ∧ W.cell? ⟨w.heap.size, 2, none⟩ = some (.int .i64 x3) ∧ W.cell? ⟨w.heap.size, 3, none⟩ = some (.int .i64 x4) ∧ W.cell? ⟨w.heap.size, 4, none⟩ = some (.bool x5)) ∧ W.cell? ⟨q, 0, none⟩ = some (.int .i64 round) ∧ W.cell? ⟨q2, 0, none⟩ = some (.map (some bm))) := fun W hW => by
    have h := (hW.block w.heap.size hs0).trans hbx
    have h2 := mkd_below hmk0 hW hmk0.1.1 hmk0.2.1.1 hmk0.2.2.1
    exact ⟨⟨cell_of_row W w.heap.size 0 _ _ (0, 0) h, cell_of_row W w.heap.size 1 _ _ (0, 0) h, cell_of_row W w.heap.size 2 _ _ (0, 0) h, cell_of_row W w.heap.size 3 _ _ (0, 0) h, cell_of_row W w.heap.size 4 _ _ (0, 0) h⟩, h2.1.2, h2.2.1.2⟩
  have HSM : Hid (∀ W, Below W0.heap.size W0 W → SetM bm nm D W) := fun W hW => (mkd_below hmk0 hW hmk0.1.1 hmk0.2.1.1 hmk0.2.2.1).2.2.2
  have HLO : Hid (∀ W, Below W0.heap.size W0 W → Below w.heap.size w W) := fun W hW => hb0.trans (hW.mono (by omega))
  have HB0 : Hid (Below W0.heap.size W0 W0.drew) := (Below.refl _ _).drew
  have k0 := HCB.out _ HB0.out
  have hhx := hhas x1
  clear hmk hmk0 hhas hbx hb0 hs0
  by_cases h : x3 < round
  · have e : goneI round ms (x1, x2, x3, x4, x5) = !(ms.contains x1) := by unfold goneI; rw [decide_eq_true h, Bool.true_and]
    rw [e]
    have HHA : Hid (∀ W, Below W0.heap.size W0 W → Calls Tryz.prog 69 #[.map (some bm), .int .i64 x1] W fun e w' => e = .returned (.bool (ms.contains x1)) ∧ Below W.heap.size W w') := fun W hW => by
      rw [← hhx]
      exact has_any bm nm D x1 W hx (HSM.out W hW)
    generalize ms.contains x1 = r at HHA ⊢
    have g1 : decide (x3 < round) = true := decide_eq_true h
    rw [hW0] at HCB HHA HLO HB0 k0
    clear e hW0 hhx HSM hx
    go_enter Tryz.func68, Tryz.ntmps68
    go_wp2
    go_region_held (fun W : World => (W.cell? ⟨w.heap.size, 0, none⟩ = some (.int .i64 x1) ∧ W.cell? ⟨w.heap.size, 1, none⟩ = some (.string x2) ∧ W.cell? ⟨w.heap.size, 2, none⟩ = some (.int .i64 x3) ∧ W.cell? ⟨w.heap.size, 3, none⟩ = some (.int .i64 x4) ∧ W.cell? ⟨w.heap.size, 4, none⟩ = some (.bool x5)) ∧ W.cell? ⟨q, 0, none⟩ = some (.int .i64 round) ∧ W.cell? ⟨q2, 0, none⟩ = some (.map (some bm)))
      (first | exact k0 | exact k1 | exact k2)
      (first
      | (go_at_call 69; refine (HHA.out _ HB1.out).mono ?_; rintro e w2 ⟨rfl, hb2⟩; have HB2 := Lib.hid (HB1.out.trans (hb2.mono HB1.out.size)); have k2 := HCB.out _ HB2.out; clear hb2)
      | (go_at_call 70; refine (numberIt_any x1 x2 x3 x4 x5 _).mono ?_; rintro e w1 ⟨rfl, hb1⟩; have HB1 := Lib.hid (HB0.out.trans (hb1.mono HB0.out.size)); have k1 := HCB.out _ HB1.out; clear hb1))
    all_goals
      go_wp2
      go_ret
      exact ⟨by first | rfl | simp [*], HLO.out _ HB2.out⟩
  · have e : goneI round ms (x1, x2, x3, x4, x5) = false := by unfold goneI; rw [decide_eq_false h, Bool.false_and]
    rw [e]
    have g1 : decide (x3 < round) = false := decide_eq_false h
    rw [hW0] at HCB HLO HB0 k0
    obtain ⟨⟨c0, c1, c2, c3, c4⟩, c5, c6⟩ := HCB.out _ (Below.refl _ _)
    clear e hW0 hhx HSM hx k0 HCB
    go_enter Tryz.func68, Tryz.ntmps68
    go_wp2
    go_quiet (fail)
    go_wp2
    go_ret
    exact ⟨by first | rfl | simp [*], by first | exact HLO.out _ (Below.refl _ _) | exact below_drewN (HLO.out _ (Below.refl _ _)) _⟩
end Go.Proofs.YtfoncmeplofedaqGreatDoor
