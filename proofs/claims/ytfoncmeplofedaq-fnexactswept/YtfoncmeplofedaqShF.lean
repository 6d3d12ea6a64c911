/- CONTRACTS: the specification's Fetched. -/
import Derived.Test.YtfoncmeplofedaqShS
import Derived.Test.YtfoncmeplofedaqStoP
namespace Go.Proofs.Ytfoncmeplofedaq
open Go.RowKit
set_option linter.unusedVariables false
set_option maxHeartbeats 2000000 in
set_option maxRecDepth 100000 in
theorem specFetched_any (r : Int) (va : Value) (l : List It) (d : Int) (w : World) (ha : RdG itf 5 w va l) (hl : l.length ≤ 1048576) (hs : ∀ p ∈ l, p.2.1.size ≤ 1048576) :
    Calls Try.prog 17 #[.agg #[.int .i64 r, va], .int .i64 d] w fun e w' => e = .returned (getV (fetchedT r l d)) ∧ Below w.heap.size w w' := by
  obtain ⟨W1, hW1⟩ : ∃ W1, W1 = w.alloc (.cells #[.int .i64 r, va] 29) := ⟨_, rfl⟩
  have hb1 : Below w.heap.size w W1 := by rw [hW1]; exact (Below.refl w.heap.size w).alloc (Nat.le_refl _) _
  have hs1 : W1.heap.size = w.heap.size + 1 := by rw [hW1]; exact alloc_sizeI _ _
  have hbox : W1.heap[w.heap.size]? = some (.cells #[.int .i64 r, va] 29 (0, 0)) := by rw [hW1]; exact heap_alloc_new w _
  have HOK : Hid (∀ W, W = W1 → Calls Try.prog 26 #[.agg #[.int .i64 r, va]] W fun e w' => e = .returned (.bool (shelfB r l)) ∧ Hid (Below (w.heap.size + 1) W1 w') ∧ w'.cell? ⟨w.heap.size, 0, none⟩ = some (.int .i64 r) ∧ w'.cell? ⟨w.heap.size, 1, none⟩ = some va) := fun W hW => by
    rw [hW]
    refine (specShelfOk_any r va l W1 (rdG_below ha hb1) hl hs).mono ?_
    rintro e w' ⟨rfl, hb⟩
    rw [hs1] at hb
    have h9 := (hb.block w.heap.size (by omega)).trans hbox
    exact ⟨rfl, hb, cell_of_row w' w.heap.size 0 _ _ (0, 0) h9, cell_of_row w' w.heap.size 1 _ _ (0, 0) h9⟩
  have HLOW : Hid (∀ wr, Below (w.heap.size + 1) W1 wr → Below w.heap.size w wr) := fun wr h => hb1.trans (h.mono (by omega))
  have HBL : Hid (∀ W, Below (w.heap.size + 1) W1 W → Calls Try.prog 36 #[.agg #[.int .i64 r, va]] W fun e w' => ∃ v, e = .returned v ∧ Hid (RdB w' v (itBs l)) ∧ Hid (Below (w.heap.size + 1) W1 w')) := fun W hB => by
    refine (l13Blobs_any r va l W (rdG_below ha (hb1.trans (hB.mono (by omega)))) hl).mono ?_
    rintro e w' ⟨v, rfl, h1, h2⟩
    exact ⟨v, rfl, rdB_owns (l := itBs l) (by rw [show (itBs l).length = l.length from List.length_map _]; exact h1), hB.trans (h2.mono (by have := hB.size; omega))⟩
  have HGE : Hid (∀ (W : World) (v : Value), RdB W v (itBs l) → Below (w.heap.size + 1) W1 W → Calls Try.prog 35 #[v, .int .i64 d] W fun e w' => e = .returned (getV (getT (itBs l) d)) ∧ Hid (Below (w.heap.size + 1) W1 w')) := fun W v h hB => by
    refine (specGet_any v (itBs l) d W h (by rw [show (itBs l).length = l.length from List.length_map _]; exact hl) (fun p hp => ?_)).mono ?_
    · obtain ⟨q, hq, rfl⟩ := List.mem_map.1 hp
      exact hs q hq
    · rintro e w' ⟨rfl, hb⟩
      exact ⟨rfl, hB.trans (hb.mono (by have := hB.size; omega))⟩
  have HW := Lib.hid hW1.symm
  obtain ⟨ao, cap, rfl⟩ := rdG_shape ha
  cases hk : shelfB r l with
  | false =>
    have e : fetchedT r l d = none := by unfold fetchedT; rw [hk]; rfl
    rw [e]
    rw [hk] at HOK
    clear e hk ha hs hbox hb1 hs1 hW1 HBL HGE
    go_enter Try.func17, Try.ntmps17
    go_wp2_with fail
    refine (HOK.out _ HW.out).mono ?_
    rintro e w2 ⟨rfl, hb2, _, _⟩
    clear HOK
    go_wp2
    go_ret2
    exact ⟨rfl, HLOW.out _ hb2.out⟩
  | true =>
    have e : fetchedT r l d = getT (itBs l) d := by unfold fetchedT; rw [if_pos hk]
    rw [e]
    rw [hk] at HOK
    obtain ⟨t, bo, hv⟩ : ∃ t bo, getV (getT (itBs l) d) = .tuple #[.string t, .bool bo] := by cases getT (itBs l) d <;> exact ⟨_, _, rfl⟩
    rw [hv] at HGE ⊢
    clear e hk ha hs hbox hb1 hs1 hW1 hv
    go_enter Try.func17, Try.ntmps17
    go_wp2_with fail
    refine (HOK.out _ HW.out).mono ?_
    rintro e w2 ⟨rfl, hb2, c0, c1⟩
    have HC := Lib.hid (HBL.out w2 hb2.out)
    clear HOK HBL
    go_wp2_with fail
    refine HC.out.mono ?_
    rintro e w3 ⟨v3, rfl, hr3, hb3⟩
    have HD := Lib.hid (HGE.out w3 v3 hr3.out hb3.out)
    clear HC HGE
    go_wp2_with fail
    refine HD.out.mono ?_
    rintro e w4 ⟨rfl, hb4⟩
    clear HD
    go_wp2
    go_ret2
    exact ⟨rfl, HLOW.out _ hb4.out⟩
end Go.Proofs.Ytfoncmeplofedaq
