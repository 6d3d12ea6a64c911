/- CONTRACT: the program's Without. -/
import Derived.Test.YtjjaephhnlhnkacDoorRngB
import Derived.Test.YtjjaephhnlhnkacDoorNDtW
import Derived.Test.YtjjaephhnlhnkacDoorNDtD
namespace Go.Proofs.YtjjaephhnlhnkacDoor
open Go.RowKit
set_option linter.unusedVariables false
set_option maxHeartbeats 2000000 in
set_option maxRecDepth 100000 in
theorem implWithout_any (va : Value) (l : List Dt) (node : Int) (w : World) (ha : RdG dtf 2 w va l) (hl : l.length ≤ 1048576) :
    Calls Tryd.prog 10 #[va, .int .i64 node] w fun e w' => ∃ v, e = .returned v ∧ OwnD w' w.heap.size v (withoutT l node) ∧ Below w.heap.size w w' := by
  have hbx := heap_alloc_new w (.cells #[.int .i64 node] 2)
  have hb0 := (Below.refl w.heap.size w).alloc (Nat.le_refl _) (.cells #[.int .i64 node] 2)
  have hs0 : (w.alloc (.cells #[.int .i64 node] 2)).heap.size = w.heap.size + 1 := by rw [World.size_alloc]
  have hok := implRingOk_any va l _ (rdG_below ha hb0) hl
  by_cases hr : RingP l
  rotate_left
  · rw [decide_eq_false hr] at hok
    have e : withoutT l node = [] := by unfold withoutT; rw [if_neg hr]
    rw [e]
    obtain ⟨ao, cap, rfl⟩ := rdG_shape ha
    clear e ha
    go_enter Tryd.func10, Tryd.ntmps10
    go_wp2_with fail
    refine hok.mono ?_
    rintro e w2 ⟨rfl, hb2⟩
    have HB := Lib.hid (hb0.trans (hb2.mono (by omega)))
    clear hok hb2 hb0
    go_wp2
    go_ret
    exact ⟨_, rfl, ownG_nil _ _ _, HB.out⟩
  · rw [decide_eq_true hr] at hok
    have e : withoutT l node = l.filter (fun x => !(fun x : Dt => decide (x.2 = node)) x) := by
      unfold withoutT
      rw [if_pos hr]
      apply List.filter_congr
      intro x _
      by_cases h : x.2 = node <;> simp [h]
    rw [e]
    have HOWN := Lib.hid (fun (W : World) (h : Below w.heap.size w W) => ownNDt_any va l W (rdG_below ha h) hl)
    have HDEL := Lib.hid (fun (B g : Nat) (W : World) (ho : OwnG dtf 2 51 W B (.slice (some ⟨g, 0, none⟩) l.length l.length) l) (hB : B ≤ W.heap.size) (hq : w.heap.size < W.heap.size) (hc : W.cell? ⟨w.heap.size, 0, none⟩ = some (.int .i64 node)) (hqB : w.heap.size < B) => deleteG_any B g l w.heap.size node W ho hl hB hq hc hqB)
    generalize l.filter (fun x => !(fun x : Dt => decide (x.2 = node)) x) = R at HDEL ⊢
    obtain ⟨ao, cap, hva⟩ := rdG_shape ha
    generalize l.length = n at hva HOWN HDEL
    subst hva
    clear e ha hr hl
    go_enter Tryd.func10, Tryd.ntmps10
    go_wp2_with fail
    refine hok.mono ?_
    rintro e w2 ⟨rfl, hb2⟩
    have hB2 := hb0.trans (hb2.mono (by omega))
    have hbx2 := (hb2.block w.heap.size (by omega)).trans hbx
    have hs2 := hb2.size
    have hcall := HOWN.out w2 hB2
    clear hok hb2 hb0 hbx HOWN
    go_wp2_with fail
    refine hcall.mono ?_
    rintro e w3 ⟨g, rfl, ho3, hb3⟩
    have hB3 := hB2.trans (hb3.mono hB2.size)
    have hbx3 := (hb3.block w.heap.size (by omega)).trans hbx2
    have hs3 := hb3.size
    have hdel := HDEL.out w2.heap.size g w3 ho3 hs3 (by omega) (cell_of_row w3 w.heap.size 0 _ _ (0, 0) hbx3) (by omega)
    clear hcall hb3 hB2 hbx2 ho3 HDEL
    go_wp2_with fail
    refine hdel.mono ?_
    rintro e w4 ⟨v, rfl, ho4, hb4⟩
    have HO : Hid (OwnD w4 w.heap.size v R) := owns_base ho4 (by omega)
    have HB := Lib.hid (hB3.trans (hb4.mono (by omega)))
    clear hdel ho4 hb4 hB3
    go_wp2
    go_ret
    exact ⟨_, rfl, HO.out, HB.out⟩
end Go.Proofs.YtjjaephhnlhnkacDoor
