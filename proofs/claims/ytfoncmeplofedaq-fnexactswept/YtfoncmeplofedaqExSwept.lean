/- FnExactSwept: at every argument impl.Swept answers as spec.Swept, writes into no argument and keeps nothing of one. For every one, without a condition. (Written by lawgen13.py.) -/
import Derived.Test.YtfoncmeplofedaqShZ
import Derived.Test.YtfoncmeplofedaqShI
import Derived.Test.YtfoncmeplofedaqItM
import Derived.Test.YtfoncmeplofedaqArgItems
import Derived.Test.YtfoncmeplofedaqShV
import Derived.Test.YtfoncmeplofedaqIntsI
namespace Go.Proofs.Ytfoncmeplofedaq.exSwept
open Go.ChangeShapes Go.WideShapes Go.ChangeAt Go.RowKit
set_option linter.unusedVariables false
set_option linter.unusedSimpArgs false
set_option maxHeartbeats 16000000 in
set_option maxRecDepth 100000 in
theorem walk (r : Int) (va : Value) (xs : List It) (n0 : Int) (vb : Value) (ms : List Int) (w : World) (ha : RdG itf 5 w va xs) (hza : ∀ s ∈ xs, ItWf s) (hna : xs.length ≤ 9223372036854775807) (n0l : -9223372036854775808 ≤ n0) (n0h : n0 ≤ 9223372036854775807) (hb : Rd w vb (cellsInt64S ms)) (hzb : ∀ n ∈ ms, (Lit.int .i64 n).wf = true) (hnb : ms.length ≤ 9223372036854775807) :
    Calls Try.prog 3 #[.agg #[.int .i64 r, va], .int .i64 n0, vb] w fun e w' => e = .returned (.bool true) ∧ Below w.heap.size w w' := by
  have hB_a : Below w.heap.size w (w.alloc (.cells #[.int .i64 r, va] 24)) := (Below.refl w.heap.size w).alloc (Nat.le_refl _) _
  have hlb : (cellsInt64S ms).length = ms.length := by simp
  have hshape : ∃ bo bc, vb = .slice bo ms.length bc := by
    obtain ⟨ao, cap, hv, _⟩ := hb
    rw [hlb] at hv
    exact ⟨ao, cap, hv⟩
  by_cases hbm : 1048576 < (ms.length : Int)
  · obtain ⟨ao, cap, rfl⟩ := rdG_shape ha
    obtain ⟨bo, bc, rfl⟩ := hshape
    have HB := Lib.hid hB_a
    clear ha hza hB_a hb hzb
    go_enter Try.func3, Try.ntmps3
    go_wp2
    go_ret
    exact ⟨rfl, HB.out⟩
  have hsz := szShelf_any r va xs 1048576 (w.alloc (.cells #[.int .i64 r, va] 24)) (rdG_below ha hB_a) hna (fun p hp => (hza p hp).2.1) (by omega) (by omega)
  by_cases hbig : szS (itTx xs) 1048576 < 0
  · obtain ⟨ao, cap, rfl⟩ := rdG_shape ha
    obtain ⟨bo, bc, rfl⟩ := hshape
    generalize szS (itTx xs) 1048576 = z at hsz hbig
    have HB := Lib.hid hB_a
    clear ha hza hB_a hb hzb
    go_enter Try.func3, Try.ntmps3
    go_wp2_with fail
    refine hsz.mono ?_
    rintro e w1 ⟨rfl, hb1⟩
    have HB1 := Lib.hid (HB.out.trans (hb1.mono HB.out.size))
    clear hsz hb1
    go_wp2
    go_ret
    exact ⟨rfl, HB1.out⟩
  obtain ⟨hlx, hsx⟩ := szS_small (xs := itTx xs) (by omega)
  have hl : xs.length ≤ 1048576 := by rw [List.length_map] at hlx; exact hlx
  have hml : ms.length ≤ 1048576 := by omega
  have hst : ∀ p ∈ xs, p.2.1.size ≤ 1048576 := fun p hp => hsx p.2.1 (List.mem_map_of_mem hp)
  have HTO := fun (W : World) (h : Below w.heap.size w W) => toShelf_any r va xs W (rdG_below ha h) hl
  have HTI := fun (W : World) (h : Below w.heap.size w W) => toInt64S_any vb ms W (rd_below hb h) hml
  obtain ⟨R1, hR1⟩ : ∃ z, z = (sweptT r xs n0 ms).1.1 := ⟨_, rfl⟩
  obtain ⟨R2, hR2⟩ : ∃ z, z = (sweptT r xs n0 ms).1.2 := ⟨_, rfl⟩
  obtain ⟨R3, hR3⟩ : ∃ z, z = (sweptT r xs n0 ms).2 := ⟨_, rfl⟩
  have hlR : R2.length ≤ 1048576 := by rw [hR2]; exact sweptT_len r xs n0 ms hl
  have HSP : ∀ (W : World) (v vm : Value), RdG itf 5 W v xs → Rd W vm (cellsInt64S ms) → Calls Try.prog 8 #[.agg #[.int .i64 r, v], .int .i64 n0, vm] W fun e w' => ∃ u, e = .returned (.tuple #[.agg #[.int .i64 R1, u], .int .i64 R3]) ∧ OwnI w' W.heap.size u R2 ∧ Below W.heap.size W w' := fun W v vm h hm => by rw [hR1, hR2, hR3]; exact specSwept_any r v xs n0 vm ms W h hm (by omega) hl hst
  have HIM : ∀ (W : World) (v vm : Value), RdG itf 5 W v xs → Rd W vm (cellsInt64S ms) → Calls Try.prog 11 #[.agg #[.int .i64 r, v], .int .i64 n0, vm] W fun e w' => ∃ u, e = .returned (.tuple #[.agg #[.int .i64 R1, u], .int .i64 R3]) ∧ OwnI w' W.heap.size u R2 ∧ Below W.heap.size W w' := fun W v vm h hm => by rw [hR1, hR2, hR3]; exact implSwept_any r v xs n0 vm ms W h hm (fun d hd => wf_i64 (hzb d hd)) (by omega) hl hst
  have hzz : (R3 != R3) = false := by simp
  obtain ⟨X, hX⟩ : ∃ X : Nat, X = 1 + 5 * xs.length := ⟨_, rfl⟩
  have HX := Lib.hid hX
  have hXb : X ≤ 6000000 := by omega
  obtain ⟨Y, hY⟩ : ∃ Y : Nat, Y = X + ms.length := ⟨_, rfl⟩
  have hY0 : ¬ ((Y : Nat) : Int) < 0 := by omega
  have hYe : (X : Int) + (ms.length : Int) = (Y : Int) := by omega
  obtain ⟨K, hK⟩ : ∃ K : Nat, K = 1 + 5 * R2.length := ⟨_, rfl⟩
  have HK := Lib.hid hK
  have hK0 : ¬ ((K : Nat) : Int) < 0 := by omega
  have HMX := fun (W : World) (b : Nat) (v : Value) (h : OwnI W b v xs) => (markShelf_any b r v 1 xs W h hl (by omega) (by omega)).mono (fun e w' (h9 : e = .returned (.int .i64 ((1 + 5 * xs.length : Nat) : Int)) ∧ OwnI w' b v (marksIt 1 xs.length) ∧ W.grownBy w' v.ownBlock) => (⟨by rw [HX.out]; exact h9.1, h9.2.2⟩ : e = .returned (.int .i64 (X : Int)) ∧ W.grownBy w' v.ownBlock))
  have HMI := fun (W : World) (b : Nat) (v : Value) (h : W.ownsRow b 2 1 v ms.length (cellsInt64S ms)) => (markInt64S_any b v X ms W h (by omega) (by omega)).mono (fun e w' h9 => (⟨by rw [← hYe]; exact h9.1, h9.2.2⟩ : e = .returned (.int .i64 (Y : Int)) ∧ W.grownBy w' v.ownBlock))
  have HMG := fun (W : World) (b : Nat) (v : Value) (h : OwnI W b v R2) => (markShelf_any b R1 v 1 R2 W h hlR (by omega) (by omega)).mono (fun e w' (h9 : e = .returned (.int .i64 ((1 + 5 * R2.length : Nat) : Int)) ∧ OwnI w' b v (marksIt 1 R2.length) ∧ W.grownBy w' v.ownBlock) => (⟨by rw [HK.out]; exact h9.1, h9.2.1, h9.2.2⟩ : e = .returned (.int .i64 (K : Int)) ∧ OwnI w' b v (marksIt 1 R2.length) ∧ W.grownBy w' v.ownBlock))
  have HHD := fun (W : World) (b : Nat) (v : Value) (h : OwnI W b v (marksIt 1 R2.length)) => (heldShelf_any R1 v 1 R2.length W (rdG_owns itW h) hlR (by omega) (by omega)).mono (fun e w' (h9 : e = .returned (.int .i64 ((1 + 5 * R2.length : Nat) : Int)) ∧ Below W.heap.size W w') => (⟨by rw [HK.out]; exact h9.1, h9.2⟩ : e = .returned (.int .i64 (K : Int)) ∧ Below W.heap.size W w'))
  clear hR1 hR2 hR3 hX hK hY hYe
  have HA0 : Hid (RdG itf 5 w va xs) := ha
  generalize szS (itTx xs) 1048576 = zz at hsz hbig
  obtain ⟨ao, cap, hva⟩ := rdG_shape ha
  obtain ⟨bo, bc, hvb⟩ := hshape
  have hxA_a : (w.alloc (.cells #[.int .i64 r, va] 24)).heap[w.heap.size]? = _ := heap_alloc_new w _
  have hlA_a : w.heap.size < (w.alloc (.cells #[.int .i64 r, va] 24)).heap.size := by rw [World.size_alloc]; omega
  clear ha hza hst hlx hsx hb hzb hlb
  subst hva
  subst hvb
  have kA0_a : (w.alloc (.cells #[.int .i64 r, .slice ao xs.length cap] 24)).cell? ⟨w.heap.size, 0, none⟩ = some _ := cell_of_row (w.alloc (.cells #[.int .i64 r, .slice ao xs.length cap] 24)) (w.heap.size) 0 _ _ (0, 0) hxA_a
  have kA1_a : (w.alloc (.cells #[.int .i64 r, .slice ao xs.length cap] 24)).cell? ⟨w.heap.size, 1, none⟩ = some _ := cell_of_row (w.alloc (.cells #[.int .i64 r, .slice ao xs.length cap] 24)) (w.heap.size) 1 _ _ (0, 0) hxA_a
  try simp only [List.getElem?_toArray, List.getElem?_cons_zero, List.getElem?_cons_succ] at kA0_a kA1_a
  go_enter Try.func3, Try.ntmps3
  go_wp2_with fail
  refine (hsz).mono ?_
  rintro e w1 ⟨rfl, hb1⟩
  have hB_1 := hB_a.trans (hb1.mono hB_a.size)
  have hs1 := hb1.size
  try rw [World.size_alloc] at hs1
  have hxA_1 := (hb1.block (w.heap.size) hlA_a).trans hxA_a
  have hlA_1 := Nat.lt_of_lt_of_le hlA_a hb1.size
  clear hB_a hxA_a hlA_a kA0_a kA1_a hb1
  have kA0_1 : (w1).cell? ⟨w.heap.size, 0, none⟩ = some _ := cell_of_row (w1) (w.heap.size) 0 _ _ (0, 0) hxA_1
  have kA1_1 : (w1).cell? ⟨w.heap.size, 1, none⟩ = some _ := cell_of_row (w1) (w.heap.size) 1 _ _ (0, 0) hxA_1
  try simp only [List.getElem?_toArray, List.getElem?_cons_zero, List.getElem?_cons_succ] at kA0_1 kA1_1
  clear hsz
  go_wp2_with fail
  refine (HTO (w1) hB_1).mono ?_
  rintro e w2 ⟨v1, rfl, ho1_2, hb2⟩
  have hB_2 := hB_1.trans (hb2.mono hB_1.size)
  have hs2 := hb2.size
  try rw [World.size_alloc] at hs2
  have hxA_2 := (hb2.block (w.heap.size) hlA_1).trans hxA_1
  have hlA_2 := Nat.lt_of_lt_of_le hlA_1 hb2.size
  clear hB_1 hxA_1 hlA_1 kA0_1 kA1_1 hb2
  obtain ⟨ao1, ac1, hv1⟩ := ownG_shape ho1_2
  subst hv1
  have hv1 := ho1_2.lt
  try simp only [World.size_alloc] at hv1
  have kA0_2 : (w2).cell? ⟨w.heap.size, 0, none⟩ = some _ := cell_of_row (w2) (w.heap.size) 0 _ _ (0, 0) hxA_2
  have kA1_2 : (w2).cell? ⟨w.heap.size, 1, none⟩ = some _ := cell_of_row (w2) (w.heap.size) 1 _ _ (0, 0) hxA_2
  try simp only [List.getElem?_toArray, List.getElem?_cons_zero, List.getElem?_cons_succ] at kA0_2 kA1_2
  go_wp2_with fail
  refine (HTI (w2) hB_2).mono ?_
  rintro e w3 ⟨v2, rfl, ho2_3, hb3⟩
  have hB_3 := hB_2.trans (hb3.mono hB_2.size)
  have hs3 := hb3.size
  try rw [World.size_alloc] at hs3
  have ho1_3 := owns_below ho1_2 hb3
  have hxA_3 := (hb3.block (w.heap.size) hlA_2).trans hxA_2
  have hlA_3 := Nat.lt_of_lt_of_le hlA_2 hb3.size
  clear hB_2 ho1_2 hxA_2 hlA_2 kA0_2 kA1_2 hb3
  obtain ⟨ao2, ac2, hv2⟩ := owns_slice ho2_3
  subst hv2
  have hv2 := ho2_3.lt
  try simp only [World.size_alloc] at hv2
  have kA0_3 : (w3).cell? ⟨w.heap.size, 0, none⟩ = some _ := cell_of_row (w3) (w.heap.size) 0 _ _ (0, 0) hxA_3
  have kA1_3 : (w3).cell? ⟨w.heap.size, 1, none⟩ = some _ := cell_of_row (w3) (w.heap.size) 1 _ _ (0, 0) hxA_3
  try simp only [List.getElem?_toArray, List.getElem?_cons_zero, List.getElem?_cons_succ] at kA0_3 kA1_3
  go_wp2_with fail
  refine (HSP (w3) _ _ (rdG_owns itW ho1_3) (rd_owns ho2_3)).mono ?_
  rintro e w4 ⟨vW, rfl, hoW_4, hb4⟩
  have hB_4 := hB_3.trans (hb4.mono hB_3.size)
  have hs4 := hb4.size
  try rw [World.size_alloc] at hs4
  have ho1_4 := owns_below ho1_3 hb4
  have ho2_4 := owns_below ho2_3 hb4
  have hxA_4 := (hb4.block (w.heap.size) hlA_3).trans hxA_3
  have hlA_4 := Nat.lt_of_lt_of_le hlA_3 hb4.size
  clear hB_3 ho1_3 ho2_3 hxA_3 hlA_3 kA0_3 kA1_3 hb4
  obtain ⟨aoW, acW, hvW⟩ := ownG_shape hoW_4
  subst hvW
  have hvW := hoW_4.lt
  try simp only [World.size_alloc] at hvW
  have kA0_4 : (w4).cell? ⟨w.heap.size, 0, none⟩ = some _ := cell_of_row (w4) (w.heap.size) 0 _ _ (0, 0) hxA_4
  have kA1_4 : (w4).cell? ⟨w.heap.size, 1, none⟩ = some _ := cell_of_row (w4) (w.heap.size) 1 _ _ (0, 0) hxA_4
  try simp only [List.getElem?_toArray, List.getElem?_cons_zero, List.getElem?_cons_succ] at kA0_4 kA1_4
  clear ho1_4
  clear ho2_4
  have hB_4a : Below w.heap.size w (w4.alloc (.cells #[.int .i64 R1, .slice aoW R2.length acW] 29)) := hB_4.alloc hB_4.size _
  have hoW_4a := hoW_4.alloc (.cells #[.int .i64 R1, .slice aoW R2.length acW] 29)
  have hxA_4a : (w4.alloc (.cells #[.int .i64 R1, .slice aoW R2.length acW] 29)).heap[w.heap.size]? = _ := (heap_alloc_old w4 _ hlA_4).trans hxA_4
  have hlA_4a : w.heap.size < (w4.alloc (.cells #[.int .i64 R1, .slice aoW R2.length acW] 29)).heap.size := by rw [World.size_alloc]; omega
  clear hB_4 hoW_4 hxA_4 hlA_4 kA0_4 kA1_4
  have hxW_4a : (w4.alloc (.cells #[.int .i64 R1, .slice aoW R2.length acW] 29)).heap[w4.heap.size]? = _ := heap_alloc_new w4 _
  have hlW_4a : w4.heap.size < (w4.alloc (.cells #[.int .i64 R1, .slice aoW R2.length acW] 29)).heap.size := by rw [World.size_alloc]; omega
  have kA0_4a : (w4.alloc (.cells #[.int .i64 R1, .slice aoW R2.length acW] 29)).cell? ⟨w.heap.size, 0, none⟩ = some _ := cell_of_row (w4.alloc (.cells #[.int .i64 R1, .slice aoW R2.length acW] 29)) (w.heap.size) 0 _ _ (0, 0) hxA_4a
  have kA1_4a : (w4.alloc (.cells #[.int .i64 R1, .slice aoW R2.length acW] 29)).cell? ⟨w.heap.size, 1, none⟩ = some _ := cell_of_row (w4.alloc (.cells #[.int .i64 R1, .slice aoW R2.length acW] 29)) (w.heap.size) 1 _ _ (0, 0) hxA_4a
  have kW0_4a : (w4.alloc (.cells #[.int .i64 R1, .slice aoW R2.length acW] 29)).cell? ⟨w4.heap.size, 0, none⟩ = some _ := cell_of_row (w4.alloc (.cells #[.int .i64 R1, .slice aoW R2.length acW] 29)) (w4.heap.size) 0 _ _ (0, 0) hxW_4a
  have kW1_4a : (w4.alloc (.cells #[.int .i64 R1, .slice aoW R2.length acW] 29)).cell? ⟨w4.heap.size, 1, none⟩ = some _ := cell_of_row (w4.alloc (.cells #[.int .i64 R1, .slice aoW R2.length acW] 29)) (w4.heap.size) 1 _ _ (0, 0) hxW_4a
  try simp only [List.getElem?_toArray, List.getElem?_cons_zero, List.getElem?_cons_succ] at kA0_4a kA1_4a kW0_4a kW1_4a
  go_wp2_with fail
  refine (HTO (w4.alloc (.cells #[.int .i64 R1, .slice aoW R2.length acW] 29)) hB_4a).mono ?_
  rintro e w5 ⟨vX, rfl, hoX_5, hb5⟩
  have hB_5 := hB_4a.trans (hb5.mono hB_4a.size)
  have hs5 := hb5.size
  try rw [World.size_alloc] at hs5
  have hoW_5 := owns_below hoW_4a hb5
  have hxA_5 := (hb5.block (w.heap.size) hlA_4a).trans hxA_4a
  have hlA_5 := Nat.lt_of_lt_of_le hlA_4a hb5.size
  have hxW_5 := (hb5.block (w4.heap.size) hlW_4a).trans hxW_4a
  have hlW_5 := Nat.lt_of_lt_of_le hlW_4a hb5.size
  clear hB_4a hoW_4a hxA_4a hlA_4a kA0_4a kA1_4a hxW_4a hlW_4a kW0_4a kW1_4a hb5
  obtain ⟨aoX, acX, hvX⟩ := ownG_shape hoX_5
  subst hvX
  have hvX := hoX_5.lt
  try simp only [World.size_alloc] at hvX
  have kA0_5 : (w5).cell? ⟨w.heap.size, 0, none⟩ = some _ := cell_of_row (w5) (w.heap.size) 0 _ _ (0, 0) hxA_5
  have kA1_5 : (w5).cell? ⟨w.heap.size, 1, none⟩ = some _ := cell_of_row (w5) (w.heap.size) 1 _ _ (0, 0) hxA_5
  have kW0_5 : (w5).cell? ⟨w4.heap.size, 0, none⟩ = some _ := cell_of_row (w5) (w4.heap.size) 0 _ _ (0, 0) hxW_5
  have kW1_5 : (w5).cell? ⟨w4.heap.size, 1, none⟩ = some _ := cell_of_row (w5) (w4.heap.size) 1 _ _ (0, 0) hxW_5
  try simp only [List.getElem?_toArray, List.getElem?_cons_zero, List.getElem?_cons_succ] at kA0_5 kA1_5 kW0_5 kW1_5
  have hB_5a : Below w.heap.size w (w5.alloc (.cells #[.int .i64 r, .slice aoX xs.length acX] 29)) := hB_5.alloc hB_5.size _
  have hoW_5a := hoW_5.alloc (.cells #[.int .i64 r, .slice aoX xs.length acX] 29)
  have hoX_5a := hoX_5.alloc (.cells #[.int .i64 r, .slice aoX xs.length acX] 29)
  have hxA_5a : (w5.alloc (.cells #[.int .i64 r, .slice aoX xs.length acX] 29)).heap[w.heap.size]? = _ := (heap_alloc_old w5 _ hlA_5).trans hxA_5
  have hlA_5a : w.heap.size < (w5.alloc (.cells #[.int .i64 r, .slice aoX xs.length acX] 29)).heap.size := by rw [World.size_alloc]; omega
  have hxW_5a : (w5.alloc (.cells #[.int .i64 r, .slice aoX xs.length acX] 29)).heap[w4.heap.size]? = _ := (heap_alloc_old w5 _ hlW_5).trans hxW_5
  have hlW_5a : w4.heap.size < (w5.alloc (.cells #[.int .i64 r, .slice aoX xs.length acX] 29)).heap.size := by rw [World.size_alloc]; omega
  clear hB_5 hoW_5 hoX_5 hxA_5 hlA_5 kA0_5 kA1_5 hxW_5 hlW_5 kW0_5 kW1_5
  have hxX_5a : (w5.alloc (.cells #[.int .i64 r, .slice aoX xs.length acX] 29)).heap[w5.heap.size]? = _ := heap_alloc_new w5 _
  have hlX_5a : w5.heap.size < (w5.alloc (.cells #[.int .i64 r, .slice aoX xs.length acX] 29)).heap.size := by rw [World.size_alloc]; omega
  have kA0_5a : (w5.alloc (.cells #[.int .i64 r, .slice aoX xs.length acX] 29)).cell? ⟨w.heap.size, 0, none⟩ = some _ := cell_of_row (w5.alloc (.cells #[.int .i64 r, .slice aoX xs.length acX] 29)) (w.heap.size) 0 _ _ (0, 0) hxA_5a
  have kA1_5a : (w5.alloc (.cells #[.int .i64 r, .slice aoX xs.length acX] 29)).cell? ⟨w.heap.size, 1, none⟩ = some _ := cell_of_row (w5.alloc (.cells #[.int .i64 r, .slice aoX xs.length acX] 29)) (w.heap.size) 1 _ _ (0, 0) hxA_5a
  have kW0_5a : (w5.alloc (.cells #[.int .i64 r, .slice aoX xs.length acX] 29)).cell? ⟨w4.heap.size, 0, none⟩ = some _ := cell_of_row (w5.alloc (.cells #[.int .i64 r, .slice aoX xs.length acX] 29)) (w4.heap.size) 0 _ _ (0, 0) hxW_5a
  have kW1_5a : (w5.alloc (.cells #[.int .i64 r, .slice aoX xs.length acX] 29)).cell? ⟨w4.heap.size, 1, none⟩ = some _ := cell_of_row (w5.alloc (.cells #[.int .i64 r, .slice aoX xs.length acX] 29)) (w4.heap.size) 1 _ _ (0, 0) hxW_5a
  have kX0_5a : (w5.alloc (.cells #[.int .i64 r, .slice aoX xs.length acX] 29)).cell? ⟨w5.heap.size, 0, none⟩ = some _ := cell_of_row (w5.alloc (.cells #[.int .i64 r, .slice aoX xs.length acX] 29)) (w5.heap.size) 0 _ _ (0, 0) hxX_5a
  have kX1_5a : (w5.alloc (.cells #[.int .i64 r, .slice aoX xs.length acX] 29)).cell? ⟨w5.heap.size, 1, none⟩ = some _ := cell_of_row (w5.alloc (.cells #[.int .i64 r, .slice aoX xs.length acX] 29)) (w5.heap.size) 1 _ _ (0, 0) hxX_5a
  try simp only [List.getElem?_toArray, List.getElem?_cons_zero, List.getElem?_cons_succ] at kA0_5a kA1_5a kW0_5a kW1_5a kX0_5a kX1_5a
  go_wp2_with fail
  refine (HTI (w5.alloc (.cells #[.int .i64 r, .slice aoX xs.length acX] 29)) hB_5a).mono ?_
  rintro e w6 ⟨vI, rfl, hoI_6, hb6⟩
  have hB_6 := hB_5a.trans (hb6.mono hB_5a.size)
  have hs6 := hb6.size
  try rw [World.size_alloc] at hs6
  have hoW_6 := owns_below hoW_5a hb6
  have hoX_6 := owns_below hoX_5a hb6
  have hxA_6 := (hb6.block (w.heap.size) hlA_5a).trans hxA_5a
  have hlA_6 := Nat.lt_of_lt_of_le hlA_5a hb6.size
  have hxW_6 := (hb6.block (w4.heap.size) hlW_5a).trans hxW_5a
  have hlW_6 := Nat.lt_of_lt_of_le hlW_5a hb6.size
  have hxX_6 := (hb6.block (w5.heap.size) hlX_5a).trans hxX_5a
  have hlX_6 := Nat.lt_of_lt_of_le hlX_5a hb6.size
  clear hB_5a hoW_5a hoX_5a hxA_5a hlA_5a kA0_5a kA1_5a hxW_5a hlW_5a kW0_5a kW1_5a hxX_5a hlX_5a kX0_5a kX1_5a hb6
  obtain ⟨aoI, acI, hvI⟩ := owns_slice hoI_6
  subst hvI
  have hvI := hoI_6.lt
  try simp only [World.size_alloc] at hvI
  have kA0_6 : (w6).cell? ⟨w.heap.size, 0, none⟩ = some _ := cell_of_row (w6) (w.heap.size) 0 _ _ (0, 0) hxA_6
  have kA1_6 : (w6).cell? ⟨w.heap.size, 1, none⟩ = some _ := cell_of_row (w6) (w.heap.size) 1 _ _ (0, 0) hxA_6
  have kW0_6 : (w6).cell? ⟨w4.heap.size, 0, none⟩ = some _ := cell_of_row (w6) (w4.heap.size) 0 _ _ (0, 0) hxW_6
  have kW1_6 : (w6).cell? ⟨w4.heap.size, 1, none⟩ = some _ := cell_of_row (w6) (w4.heap.size) 1 _ _ (0, 0) hxW_6
  have kX0_6 : (w6).cell? ⟨w5.heap.size, 0, none⟩ = some _ := cell_of_row (w6) (w5.heap.size) 0 _ _ (0, 0) hxX_6
  have kX1_6 : (w6).cell? ⟨w5.heap.size, 1, none⟩ = some _ := cell_of_row (w6) (w5.heap.size) 1 _ _ (0, 0) hxX_6
  try simp only [List.getElem?_toArray, List.getElem?_cons_zero, List.getElem?_cons_succ] at kA0_6 kA1_6 kW0_6 kW1_6 kX0_6 kX1_6
  go_wp2_with fail
  refine (HIM (w6) _ _ (rdG_owns itW hoX_6) (rd_owns hoI_6)).mono ?_
  rintro e w7 ⟨vG, rfl, hoG_7, hb7⟩
  have hB_7 := hB_6.trans (hb7.mono hB_6.size)
  have hs7 := hb7.size
  try rw [World.size_alloc] at hs7
  have hoW_7 := owns_below hoW_6 hb7
  have hoX_7 := owns_below hoX_6 hb7
  have hoI_7 := owns_below hoI_6 hb7
  have hxA_7 := (hb7.block (w.heap.size) hlA_6).trans hxA_6
  have hlA_7 := Nat.lt_of_lt_of_le hlA_6 hb7.size
  have hxW_7 := (hb7.block (w4.heap.size) hlW_6).trans hxW_6
  have hlW_7 := Nat.lt_of_lt_of_le hlW_6 hb7.size
  have hxX_7 := (hb7.block (w5.heap.size) hlX_6).trans hxX_6
  have hlX_7 := Nat.lt_of_lt_of_le hlX_6 hb7.size
  clear hB_6 hoW_6 hoX_6 hoI_6 hxA_6 hlA_6 kA0_6 kA1_6 hxW_6 hlW_6 kW0_6 kW1_6 hxX_6 hlX_6 kX0_6 kX1_6 hb7
  obtain ⟨aoG, acG, hvG⟩ := ownG_shape hoG_7
  subst hvG
  have hvG := hoG_7.lt
  try simp only [World.size_alloc] at hvG
  have kA0_7 : (w7).cell? ⟨w.heap.size, 0, none⟩ = some _ := cell_of_row (w7) (w.heap.size) 0 _ _ (0, 0) hxA_7
  have kA1_7 : (w7).cell? ⟨w.heap.size, 1, none⟩ = some _ := cell_of_row (w7) (w.heap.size) 1 _ _ (0, 0) hxA_7
  have kW0_7 : (w7).cell? ⟨w4.heap.size, 0, none⟩ = some _ := cell_of_row (w7) (w4.heap.size) 0 _ _ (0, 0) hxW_7
  have kW1_7 : (w7).cell? ⟨w4.heap.size, 1, none⟩ = some _ := cell_of_row (w7) (w4.heap.size) 1 _ _ (0, 0) hxW_7
  have kX0_7 : (w7).cell? ⟨w5.heap.size, 0, none⟩ = some _ := cell_of_row (w7) (w5.heap.size) 0 _ _ (0, 0) hxX_7
  have kX1_7 : (w7).cell? ⟨w5.heap.size, 1, none⟩ = some _ := cell_of_row (w7) (w5.heap.size) 1 _ _ (0, 0) hxX_7
  try simp only [List.getElem?_toArray, List.getElem?_cons_zero, List.getElem?_cons_succ] at kA0_7 kA1_7 kW0_7 kW1_7 kX0_7 kX1_7
  have hB_7a : Below w.heap.size w (w7.alloc (.cells #[.int .i64 R1, .slice aoG R2.length acG] 29)) := hB_7.alloc hB_7.size _
  have hoW_7a := hoW_7.alloc (.cells #[.int .i64 R1, .slice aoG R2.length acG] 29)
  have hoX_7a := hoX_7.alloc (.cells #[.int .i64 R1, .slice aoG R2.length acG] 29)
  have hoI_7a := hoI_7.alloc (.cells #[.int .i64 R1, .slice aoG R2.length acG] 29)
  have hoG_7a := hoG_7.alloc (.cells #[.int .i64 R1, .slice aoG R2.length acG] 29)
  have hxA_7a : (w7.alloc (.cells #[.int .i64 R1, .slice aoG R2.length acG] 29)).heap[w.heap.size]? = _ := (heap_alloc_old w7 _ hlA_7).trans hxA_7
  have hlA_7a : w.heap.size < (w7.alloc (.cells #[.int .i64 R1, .slice aoG R2.length acG] 29)).heap.size := by rw [World.size_alloc]; omega
  have hxW_7a : (w7.alloc (.cells #[.int .i64 R1, .slice aoG R2.length acG] 29)).heap[w4.heap.size]? = _ := (heap_alloc_old w7 _ hlW_7).trans hxW_7
  have hlW_7a : w4.heap.size < (w7.alloc (.cells #[.int .i64 R1, .slice aoG R2.length acG] 29)).heap.size := by rw [World.size_alloc]; omega
  have hxX_7a : (w7.alloc (.cells #[.int .i64 R1, .slice aoG R2.length acG] 29)).heap[w5.heap.size]? = _ := (heap_alloc_old w7 _ hlX_7).trans hxX_7
  have hlX_7a : w5.heap.size < (w7.alloc (.cells #[.int .i64 R1, .slice aoG R2.length acG] 29)).heap.size := by rw [World.size_alloc]; omega
  clear hB_7 hoW_7 hoX_7 hoI_7 hoG_7 hxA_7 hlA_7 kA0_7 kA1_7 hxW_7 hlW_7 kW0_7 kW1_7 hxX_7 hlX_7 kX0_7 kX1_7
  have hxG_7a : (w7.alloc (.cells #[.int .i64 R1, .slice aoG R2.length acG] 29)).heap[w7.heap.size]? = _ := heap_alloc_new w7 _
  have hlG_7a : w7.heap.size < (w7.alloc (.cells #[.int .i64 R1, .slice aoG R2.length acG] 29)).heap.size := by rw [World.size_alloc]; omega
  have kA0_7a : (w7.alloc (.cells #[.int .i64 R1, .slice aoG R2.length acG] 29)).cell? ⟨w.heap.size, 0, none⟩ = some _ := cell_of_row (w7.alloc (.cells #[.int .i64 R1, .slice aoG R2.length acG] 29)) (w.heap.size) 0 _ _ (0, 0) hxA_7a
  have kA1_7a : (w7.alloc (.cells #[.int .i64 R1, .slice aoG R2.length acG] 29)).cell? ⟨w.heap.size, 1, none⟩ = some _ := cell_of_row (w7.alloc (.cells #[.int .i64 R1, .slice aoG R2.length acG] 29)) (w.heap.size) 1 _ _ (0, 0) hxA_7a
  have kW0_7a : (w7.alloc (.cells #[.int .i64 R1, .slice aoG R2.length acG] 29)).cell? ⟨w4.heap.size, 0, none⟩ = some _ := cell_of_row (w7.alloc (.cells #[.int .i64 R1, .slice aoG R2.length acG] 29)) (w4.heap.size) 0 _ _ (0, 0) hxW_7a
  have kW1_7a : (w7.alloc (.cells #[.int .i64 R1, .slice aoG R2.length acG] 29)).cell? ⟨w4.heap.size, 1, none⟩ = some _ := cell_of_row (w7.alloc (.cells #[.int .i64 R1, .slice aoG R2.length acG] 29)) (w4.heap.size) 1 _ _ (0, 0) hxW_7a
  have kX0_7a : (w7.alloc (.cells #[.int .i64 R1, .slice aoG R2.length acG] 29)).cell? ⟨w5.heap.size, 0, none⟩ = some _ := cell_of_row (w7.alloc (.cells #[.int .i64 R1, .slice aoG R2.length acG] 29)) (w5.heap.size) 0 _ _ (0, 0) hxX_7a
  have kX1_7a : (w7.alloc (.cells #[.int .i64 R1, .slice aoG R2.length acG] 29)).cell? ⟨w5.heap.size, 1, none⟩ = some _ := cell_of_row (w7.alloc (.cells #[.int .i64 R1, .slice aoG R2.length acG] 29)) (w5.heap.size) 1 _ _ (0, 0) hxX_7a
  have kG0_7a : (w7.alloc (.cells #[.int .i64 R1, .slice aoG R2.length acG] 29)).cell? ⟨w7.heap.size, 0, none⟩ = some _ := cell_of_row (w7.alloc (.cells #[.int .i64 R1, .slice aoG R2.length acG] 29)) (w7.heap.size) 0 _ _ (0, 0) hxG_7a
  have kG1_7a : (w7.alloc (.cells #[.int .i64 R1, .slice aoG R2.length acG] 29)).cell? ⟨w7.heap.size, 1, none⟩ = some _ := cell_of_row (w7.alloc (.cells #[.int .i64 R1, .slice aoG R2.length acG] 29)) (w7.heap.size) 1 _ _ (0, 0) hxG_7a
  try simp only [List.getElem?_toArray, List.getElem?_cons_zero, List.getElem?_cons_succ] at kA0_7a kA1_7a kW0_7a kW1_7a kX0_7a kX1_7a kG0_7a kG1_7a
  go_wp2_with fail
  refine (eqShelf_same R1 (.slice aoG R2.length acG) (.slice aoW R2.length acW) R2 (w7.alloc (.cells #[.int .i64 R1, .slice aoG R2.length acG] 29)) (rdG_owns itW hoG_7a) (rdG_owns itW hoW_7a) hlR).mono ?_
  rintro e w8 ⟨rfl, hb8⟩
  have hB_8 := hB_7a.trans (hb8.mono hB_7a.size)
  have hs8 := hb8.size
  try rw [World.size_alloc] at hs8
  have hoW_8 := owns_below hoW_7a hb8
  have hoX_8 := owns_below hoX_7a hb8
  have hoI_8 := owns_below hoI_7a hb8
  have hoG_8 := owns_below hoG_7a hb8
  have hxA_8 := (hb8.block (w.heap.size) hlA_7a).trans hxA_7a
  have hlA_8 := Nat.lt_of_lt_of_le hlA_7a hb8.size
  have hxW_8 := (hb8.block (w4.heap.size) hlW_7a).trans hxW_7a
  have hlW_8 := Nat.lt_of_lt_of_le hlW_7a hb8.size
  have hxX_8 := (hb8.block (w5.heap.size) hlX_7a).trans hxX_7a
  have hlX_8 := Nat.lt_of_lt_of_le hlX_7a hb8.size
  have hxG_8 := (hb8.block (w7.heap.size) hlG_7a).trans hxG_7a
  have hlG_8 := Nat.lt_of_lt_of_le hlG_7a hb8.size
  clear hB_7a hoW_7a hoX_7a hoI_7a hoG_7a hxA_7a hlA_7a kA0_7a kA1_7a hxW_7a hlW_7a kW0_7a kW1_7a hxX_7a hlX_7a kX0_7a kX1_7a hxG_7a hlG_7a kG0_7a kG1_7a hb8
  have kA0_8 : (w8).cell? ⟨w.heap.size, 0, none⟩ = some _ := cell_of_row (w8) (w.heap.size) 0 _ _ (0, 0) hxA_8
  have kA1_8 : (w8).cell? ⟨w.heap.size, 1, none⟩ = some _ := cell_of_row (w8) (w.heap.size) 1 _ _ (0, 0) hxA_8
  have kW0_8 : (w8).cell? ⟨w4.heap.size, 0, none⟩ = some _ := cell_of_row (w8) (w4.heap.size) 0 _ _ (0, 0) hxW_8
  have kW1_8 : (w8).cell? ⟨w4.heap.size, 1, none⟩ = some _ := cell_of_row (w8) (w4.heap.size) 1 _ _ (0, 0) hxW_8
  have kX0_8 : (w8).cell? ⟨w5.heap.size, 0, none⟩ = some _ := cell_of_row (w8) (w5.heap.size) 0 _ _ (0, 0) hxX_8
  have kX1_8 : (w8).cell? ⟨w5.heap.size, 1, none⟩ = some _ := cell_of_row (w8) (w5.heap.size) 1 _ _ (0, 0) hxX_8
  have kG0_8 : (w8).cell? ⟨w7.heap.size, 0, none⟩ = some _ := cell_of_row (w8) (w7.heap.size) 0 _ _ (0, 0) hxG_8
  have kG1_8 : (w8).cell? ⟨w7.heap.size, 1, none⟩ = some _ := cell_of_row (w8) (w7.heap.size) 1 _ _ (0, 0) hxG_8
  try simp only [List.getElem?_toArray, List.getElem?_cons_zero, List.getElem?_cons_succ] at kA0_8 kA1_8 kW0_8 kW1_8 kX0_8 kX1_8 kG0_8 kG1_8
  have HS_8 : Hid (∀ W : World, Below (w8).heap.size (w8) W → (W.cell? ⟨w.heap.size, 0, none⟩ = some (.int .i64 r) ∧ W.cell? ⟨w.heap.size, 1, none⟩ = some (.slice ao xs.length cap)) ∧ (W.cell? ⟨w5.heap.size, 0, none⟩ = some (.int .i64 r) ∧ W.cell? ⟨w5.heap.size, 1, none⟩ = some (.slice aoX xs.length acX))) := fun W hW => ⟨⟨(hW.cell (p := ⟨w.heap.size, 0, none⟩) hlA_8).trans kA0_8, (hW.cell (p := ⟨w.heap.size, 1, none⟩) hlA_8).trans kA1_8⟩, ⟨(hW.cell (p := ⟨w5.heap.size, 0, none⟩) hlX_8).trans kX0_8, (hW.cell (p := ⟨w5.heap.size, 1, none⟩) hlX_8).trans kX1_8⟩⟩
  have hbd : Below (w8).heap.size (w8) (w8).drew := (Below.refl _ _).drew
  go_wp2_with fail
  go_region_held (fun W : World => (W.cell? ⟨w.heap.size, 0, none⟩ = some (.int .i64 r) ∧ W.cell? ⟨w.heap.size, 1, none⟩ = some (.slice ao xs.length cap)) ∧ (W.cell? ⟨w5.heap.size, 0, none⟩ = some (.int .i64 r) ∧ W.cell? ⟨w5.heap.size, 1, none⟩ = some (.slice aoX xs.length acX))) (first | exact HS_8.out _ hbd | exact HS_8.out _ hbq | exact HS_8.out _ hbp | go_keep) (first
    | (go_at_call 12; refine (eqShelf_same r (.slice aoX xs.length acX) v3 xs w9 (rdG_owns itW (owns_below hoX_8 hbp)) (rdG_owns itW ho3) hl).mono ?_; rintro e w10 ⟨rfl, hb3⟩; have hbq := hbp.trans (hb3.mono hbp.size))
    | (go_at_call 9; refine (HTO (w8).drew hB_8.drew).mono ?_; rintro e w9 ⟨v3, rfl, ho3, hb3a⟩; have hbp : Below (w8).heap.size (w8) w9 := hbd.trans (hb3a.mono (Nat.le_refl _))))
  have hb10 := hbq
  have hB_10 := hB_8.trans (hb10.mono hB_8.size)
  have hs10 := hb10.size
  try rw [World.size_alloc] at hs10
  have hoW_10 := owns_below hoW_8 hb10
  have hoX_10 := owns_below hoX_8 hb10
  have hoI_10 := owns_below hoI_8 hb10
  have hoG_10 := owns_below hoG_8 hb10
  have hxA_10 := (hb10.block (w.heap.size) hlA_8).trans hxA_8
  have hlA_10 := Nat.lt_of_lt_of_le hlA_8 hb10.size
  have hxW_10 := (hb10.block (w4.heap.size) hlW_8).trans hxW_8
  have hlW_10 := Nat.lt_of_lt_of_le hlW_8 hb10.size
  have hxX_10 := (hb10.block (w5.heap.size) hlX_8).trans hxX_8
  have hlX_10 := Nat.lt_of_lt_of_le hlX_8 hb10.size
  have hxG_10 := (hb10.block (w7.heap.size) hlG_8).trans hxG_8
  have hlG_10 := Nat.lt_of_lt_of_le hlG_8 hb10.size
  clear hB_8 hoW_8 hoX_8 hoI_8 hoG_8 hxA_8 hlA_8 kA0_8 kA1_8 hxW_8 hlW_8 kW0_8 kW1_8 hxX_8 hlX_8 kX0_8 kX1_8 hxG_8 hlG_8 kG0_8 kG1_8 hb10 hbq hbp hb3 hb3a ho3 hbd HS_8
  have kA0_10 : (w10).cell? ⟨w.heap.size, 0, none⟩ = some _ := cell_of_row (w10) (w.heap.size) 0 _ _ (0, 0) hxA_10
  have kA1_10 : (w10).cell? ⟨w.heap.size, 1, none⟩ = some _ := cell_of_row (w10) (w.heap.size) 1 _ _ (0, 0) hxA_10
  have kW0_10 : (w10).cell? ⟨w4.heap.size, 0, none⟩ = some _ := cell_of_row (w10) (w4.heap.size) 0 _ _ (0, 0) hxW_10
  have kW1_10 : (w10).cell? ⟨w4.heap.size, 1, none⟩ = some _ := cell_of_row (w10) (w4.heap.size) 1 _ _ (0, 0) hxW_10
  have kX0_10 : (w10).cell? ⟨w5.heap.size, 0, none⟩ = some _ := cell_of_row (w10) (w5.heap.size) 0 _ _ (0, 0) hxX_10
  have kX1_10 : (w10).cell? ⟨w5.heap.size, 1, none⟩ = some _ := cell_of_row (w10) (w5.heap.size) 1 _ _ (0, 0) hxX_10
  have kG0_10 : (w10).cell? ⟨w7.heap.size, 0, none⟩ = some _ := cell_of_row (w10) (w7.heap.size) 0 _ _ (0, 0) hxG_10
  have kG1_10 : (w10).cell? ⟨w7.heap.size, 1, none⟩ = some _ := cell_of_row (w10) (w7.heap.size) 1 _ _ (0, 0) hxG_10
  try simp only [List.getElem?_toArray, List.getElem?_cons_zero, List.getElem?_cons_succ] at kA0_10 kA1_10 kW0_10 kW1_10 kX0_10 kX1_10 kG0_10 kG1_10
  go_wp2_with fail
  refine (HTI (w10) hB_10).mono ?_
  rintro e w11 ⟨v4, rfl, ho4_11, hb11⟩
  have hB_11 := hB_10.trans (hb11.mono hB_10.size)
  have hs11 := hb11.size
  try rw [World.size_alloc] at hs11
  have hoW_11 := owns_below hoW_10 hb11
  have hoX_11 := owns_below hoX_10 hb11
  have hoI_11 := owns_below hoI_10 hb11
  have hoG_11 := owns_below hoG_10 hb11
  have hxA_11 := (hb11.block (w.heap.size) hlA_10).trans hxA_10
  have hlA_11 := Nat.lt_of_lt_of_le hlA_10 hb11.size
  have hxW_11 := (hb11.block (w4.heap.size) hlW_10).trans hxW_10
  have hlW_11 := Nat.lt_of_lt_of_le hlW_10 hb11.size
  have hxX_11 := (hb11.block (w5.heap.size) hlX_10).trans hxX_10
  have hlX_11 := Nat.lt_of_lt_of_le hlX_10 hb11.size
  have hxG_11 := (hb11.block (w7.heap.size) hlG_10).trans hxG_10
  have hlG_11 := Nat.lt_of_lt_of_le hlG_10 hb11.size
  clear hB_10 hoW_10 hoX_10 hoI_10 hoG_10 hxA_10 hlA_10 kA0_10 kA1_10 hxW_10 hlW_10 kW0_10 kW1_10 hxX_10 hlX_10 kX0_10 kX1_10 hxG_10 hlG_10 kG0_10 kG1_10 hb11
  obtain ⟨ao4, ac4, hv4⟩ := owns_slice ho4_11
  subst hv4
  have hv4 := ho4_11.lt
  try simp only [World.size_alloc] at hv4
  have kA0_11 : (w11).cell? ⟨w.heap.size, 0, none⟩ = some _ := cell_of_row (w11) (w.heap.size) 0 _ _ (0, 0) hxA_11
  have kA1_11 : (w11).cell? ⟨w.heap.size, 1, none⟩ = some _ := cell_of_row (w11) (w.heap.size) 1 _ _ (0, 0) hxA_11
  have kW0_11 : (w11).cell? ⟨w4.heap.size, 0, none⟩ = some _ := cell_of_row (w11) (w4.heap.size) 0 _ _ (0, 0) hxW_11
  have kW1_11 : (w11).cell? ⟨w4.heap.size, 1, none⟩ = some _ := cell_of_row (w11) (w4.heap.size) 1 _ _ (0, 0) hxW_11
  have kX0_11 : (w11).cell? ⟨w5.heap.size, 0, none⟩ = some _ := cell_of_row (w11) (w5.heap.size) 0 _ _ (0, 0) hxX_11
  have kX1_11 : (w11).cell? ⟨w5.heap.size, 1, none⟩ = some _ := cell_of_row (w11) (w5.heap.size) 1 _ _ (0, 0) hxX_11
  have kG0_11 : (w11).cell? ⟨w7.heap.size, 0, none⟩ = some _ := cell_of_row (w11) (w7.heap.size) 0 _ _ (0, 0) hxG_11
  have kG1_11 : (w11).cell? ⟨w7.heap.size, 1, none⟩ = some _ := cell_of_row (w11) (w7.heap.size) 1 _ _ (0, 0) hxG_11
  try simp only [List.getElem?_toArray, List.getElem?_cons_zero, List.getElem?_cons_succ] at kA0_11 kA1_11 kW0_11 kW1_11 kX0_11 kX1_11 kG0_11 kG1_11
  go_wp2_with fail
  refine (eqInt64S_any (.slice aoI ms.length acI) (.slice ao4 ms.length ac4) ms ms (w11) (rd_owns hoI_11) (rd_owns ho4_11) (by omega) (by omega)).mono ?_
  rintro e w12 ⟨rfl, hb12⟩
  have hB_12 := hB_11.trans (hb12.mono hB_11.size)
  have hs12 := hb12.size
  try rw [World.size_alloc] at hs12
  have hoW_12 := owns_below hoW_11 hb12
  have hoX_12 := owns_below hoX_11 hb12
  have hoI_12 := owns_below hoI_11 hb12
  have hoG_12 := owns_below hoG_11 hb12
  have ho4_12 := owns_below ho4_11 hb12
  have hxA_12 := (hb12.block (w.heap.size) hlA_11).trans hxA_11
  have hlA_12 := Nat.lt_of_lt_of_le hlA_11 hb12.size
  have hxW_12 := (hb12.block (w4.heap.size) hlW_11).trans hxW_11
  have hlW_12 := Nat.lt_of_lt_of_le hlW_11 hb12.size
  have hxX_12 := (hb12.block (w5.heap.size) hlX_11).trans hxX_11
  have hlX_12 := Nat.lt_of_lt_of_le hlX_11 hb12.size
  have hxG_12 := (hb12.block (w7.heap.size) hlG_11).trans hxG_11
  have hlG_12 := Nat.lt_of_lt_of_le hlG_11 hb12.size
  clear hB_11 hoW_11 hoX_11 hoI_11 hoG_11 ho4_11 hxA_11 hlA_11 kA0_11 kA1_11 hxW_11 hlW_11 kW0_11 kW1_11 hxX_11 hlX_11 kX0_11 kX1_11 hxG_11 hlG_11 kG0_11 kG1_11 hb12
  have kA0_12 : (w12).cell? ⟨w.heap.size, 0, none⟩ = some _ := cell_of_row (w12) (w.heap.size) 0 _ _ (0, 0) hxA_12
  have kA1_12 : (w12).cell? ⟨w.heap.size, 1, none⟩ = some _ := cell_of_row (w12) (w.heap.size) 1 _ _ (0, 0) hxA_12
  have kW0_12 : (w12).cell? ⟨w4.heap.size, 0, none⟩ = some _ := cell_of_row (w12) (w4.heap.size) 0 _ _ (0, 0) hxW_12
  have kW1_12 : (w12).cell? ⟨w4.heap.size, 1, none⟩ = some _ := cell_of_row (w12) (w4.heap.size) 1 _ _ (0, 0) hxW_12
  have kX0_12 : (w12).cell? ⟨w5.heap.size, 0, none⟩ = some _ := cell_of_row (w12) (w5.heap.size) 0 _ _ (0, 0) hxX_12
  have kX1_12 : (w12).cell? ⟨w5.heap.size, 1, none⟩ = some _ := cell_of_row (w12) (w5.heap.size) 1 _ _ (0, 0) hxX_12
  have kG0_12 : (w12).cell? ⟨w7.heap.size, 0, none⟩ = some _ := cell_of_row (w12) (w7.heap.size) 0 _ _ (0, 0) hxG_12
  have kG1_12 : (w12).cell? ⟨w7.heap.size, 1, none⟩ = some _ := cell_of_row (w12) (w7.heap.size) 1 _ _ (0, 0) hxG_12
  try simp only [List.getElem?_toArray, List.getElem?_cons_zero, List.getElem?_cons_succ] at kA0_12 kA1_12 kW0_12 kW1_12 kX0_12 kX1_12 kG0_12 kG1_12
  rw [decide_eq_true rfl]
  clear ho4_12
  go_wp2_with fail
  refine (HMX (w12) _ (.slice aoX xs.length acX) hoX_12).mono ?_
  rintro e w13 ⟨rfl, hg13⟩
  have hs13 := hg13.size
  have hB_13 : Below w.heap.size w w13 := hB_12.grown hg13 hB_12.size (fun q hq => by have := (hvX q hq).1; omega)
  have hoW_13 := owns_grown hoW_12 hg13 (fun q hq h => by have h1 := hvX q hq; have h2 := hvW q h; omega)
  have hoI_13 := owns_grown hoI_12 hg13 (fun q hq h => by have h1 := hvX q hq; have h2 := hvI q h; omega)
  have hoG_13 := owns_grown hoG_12 hg13 (fun q hq h => by have h1 := hvX q hq; have h2 := hvG q h; omega)
  have hxA_13 := (hg13.block (w.heap.size) hlA_12 (fun h => by have h1 := hvX _ h.symm; omega)).trans hxA_12
  have hlA_13 := Nat.lt_of_lt_of_le hlA_12 hg13.size
  have hxW_13 := (hg13.block (w4.heap.size) hlW_12 (fun h => by have h1 := hvX _ h.symm; omega)).trans hxW_12
  have hlW_13 := Nat.lt_of_lt_of_le hlW_12 hg13.size
  have hxX_13 := (hg13.block (w5.heap.size) hlX_12 (fun h => by have h1 := hvX _ h.symm; omega)).trans hxX_12
  have hlX_13 := Nat.lt_of_lt_of_le hlX_12 hg13.size
  have hxG_13 := (hg13.block (w7.heap.size) hlG_12 (fun h => by have h1 := hvX _ h.symm; omega)).trans hxG_12
  have hlG_13 := Nat.lt_of_lt_of_le hlG_12 hg13.size
  clear hB_12 hoW_12 hoX_12 hoI_12 hoG_12 hxA_12 hlA_12 kA0_12 kA1_12 hxW_12 hlW_12 kW0_12 kW1_12 hxX_12 hlX_12 kX0_12 kX1_12 hxG_12 hlG_12 kG0_12 kG1_12 hg13
  have kA0_13 : (w13).cell? ⟨w.heap.size, 0, none⟩ = some _ := cell_of_row (w13) (w.heap.size) 0 _ _ (0, 0) hxA_13
  have kA1_13 : (w13).cell? ⟨w.heap.size, 1, none⟩ = some _ := cell_of_row (w13) (w.heap.size) 1 _ _ (0, 0) hxA_13
  have kW0_13 : (w13).cell? ⟨w4.heap.size, 0, none⟩ = some _ := cell_of_row (w13) (w4.heap.size) 0 _ _ (0, 0) hxW_13
  have kW1_13 : (w13).cell? ⟨w4.heap.size, 1, none⟩ = some _ := cell_of_row (w13) (w4.heap.size) 1 _ _ (0, 0) hxW_13
  have kX0_13 : (w13).cell? ⟨w5.heap.size, 0, none⟩ = some _ := cell_of_row (w13) (w5.heap.size) 0 _ _ (0, 0) hxX_13
  have kX1_13 : (w13).cell? ⟨w5.heap.size, 1, none⟩ = some _ := cell_of_row (w13) (w5.heap.size) 1 _ _ (0, 0) hxX_13
  have kG0_13 : (w13).cell? ⟨w7.heap.size, 0, none⟩ = some _ := cell_of_row (w13) (w7.heap.size) 0 _ _ (0, 0) hxG_13
  have kG1_13 : (w13).cell? ⟨w7.heap.size, 1, none⟩ = some _ := cell_of_row (w13) (w7.heap.size) 1 _ _ (0, 0) hxG_13
  try simp only [List.getElem?_toArray, List.getElem?_cons_zero, List.getElem?_cons_succ] at kA0_13 kA1_13 kW0_13 kW1_13 kX0_13 kX1_13 kG0_13 kG1_13
  go_wp2_with fail
  refine (HMI (w13) _ (.slice aoI ms.length acI) hoI_13).mono ?_
  rintro e w14 ⟨rfl, hg14⟩
  have hs14 := hg14.size
  have hB_14 : Below w.heap.size w w14 := hB_13.grown hg14 hB_13.size (fun q hq => by have := (hvI q hq).1; omega)
  have hoW_14 := owns_grown hoW_13 hg14 (fun q hq h => by have h1 := hvI q hq; have h2 := hvW q h; omega)
  have hoG_14 := owns_grown hoG_13 hg14 (fun q hq h => by have h1 := hvI q hq; have h2 := hvG q h; omega)
  have hxA_14 := (hg14.block (w.heap.size) hlA_13 (fun h => by have h1 := hvI _ h.symm; omega)).trans hxA_13
  have hlA_14 := Nat.lt_of_lt_of_le hlA_13 hg14.size
  have hxW_14 := (hg14.block (w4.heap.size) hlW_13 (fun h => by have h1 := hvI _ h.symm; omega)).trans hxW_13
  have hlW_14 := Nat.lt_of_lt_of_le hlW_13 hg14.size
  have hxX_14 := (hg14.block (w5.heap.size) hlX_13 (fun h => by have h1 := hvI _ h.symm; omega)).trans hxX_13
  have hlX_14 := Nat.lt_of_lt_of_le hlX_13 hg14.size
  have hxG_14 := (hg14.block (w7.heap.size) hlG_13 (fun h => by have h1 := hvI _ h.symm; omega)).trans hxG_13
  have hlG_14 := Nat.lt_of_lt_of_le hlG_13 hg14.size
  clear hB_13 hoW_13 hoI_13 hoG_13 hxA_13 hlA_13 kA0_13 kA1_13 hxW_13 hlW_13 kW0_13 kW1_13 hxX_13 hlX_13 kX0_13 kX1_13 hxG_13 hlG_13 kG0_13 kG1_13 hg14
  have kA0_14 : (w14).cell? ⟨w.heap.size, 0, none⟩ = some _ := cell_of_row (w14) (w.heap.size) 0 _ _ (0, 0) hxA_14
  have kA1_14 : (w14).cell? ⟨w.heap.size, 1, none⟩ = some _ := cell_of_row (w14) (w.heap.size) 1 _ _ (0, 0) hxA_14
  have kW0_14 : (w14).cell? ⟨w4.heap.size, 0, none⟩ = some _ := cell_of_row (w14) (w4.heap.size) 0 _ _ (0, 0) hxW_14
  have kW1_14 : (w14).cell? ⟨w4.heap.size, 1, none⟩ = some _ := cell_of_row (w14) (w4.heap.size) 1 _ _ (0, 0) hxW_14
  have kX0_14 : (w14).cell? ⟨w5.heap.size, 0, none⟩ = some _ := cell_of_row (w14) (w5.heap.size) 0 _ _ (0, 0) hxX_14
  have kX1_14 : (w14).cell? ⟨w5.heap.size, 1, none⟩ = some _ := cell_of_row (w14) (w5.heap.size) 1 _ _ (0, 0) hxX_14
  have kG0_14 : (w14).cell? ⟨w7.heap.size, 0, none⟩ = some _ := cell_of_row (w14) (w7.heap.size) 0 _ _ (0, 0) hxG_14
  have kG1_14 : (w14).cell? ⟨w7.heap.size, 1, none⟩ = some _ := cell_of_row (w14) (w7.heap.size) 1 _ _ (0, 0) hxG_14
  try simp only [List.getElem?_toArray, List.getElem?_cons_zero, List.getElem?_cons_succ] at kA0_14 kA1_14 kW0_14 kW1_14 kX0_14 kX1_14 kG0_14 kG1_14
  go_wp2_with fail
  refine (eqShelf_same R1 (.slice aoG R2.length acG) (.slice aoW R2.length acW) R2 (w14) (rdG_owns itW hoG_14) (rdG_owns itW hoW_14) hlR).mono ?_
  rintro e w15 ⟨rfl, hb15⟩
  have hB_15 := hB_14.trans (hb15.mono hB_14.size)
  have hs15 := hb15.size
  try rw [World.size_alloc] at hs15
  have hoW_15 := owns_below hoW_14 hb15
  have hoG_15 := owns_below hoG_14 hb15
  have hxA_15 := (hb15.block (w.heap.size) hlA_14).trans hxA_14
  have hlA_15 := Nat.lt_of_lt_of_le hlA_14 hb15.size
  have hxW_15 := (hb15.block (w4.heap.size) hlW_14).trans hxW_14
  have hlW_15 := Nat.lt_of_lt_of_le hlW_14 hb15.size
  have hxX_15 := (hb15.block (w5.heap.size) hlX_14).trans hxX_14
  have hlX_15 := Nat.lt_of_lt_of_le hlX_14 hb15.size
  have hxG_15 := (hb15.block (w7.heap.size) hlG_14).trans hxG_14
  have hlG_15 := Nat.lt_of_lt_of_le hlG_14 hb15.size
  clear hB_14 hoW_14 hoG_14 hxA_14 hlA_14 kA0_14 kA1_14 hxW_14 hlW_14 kW0_14 kW1_14 hxX_14 hlX_14 kX0_14 kX1_14 hxG_14 hlG_14 kG0_14 kG1_14 hb15
  have kA0_15 : (w15).cell? ⟨w.heap.size, 0, none⟩ = some _ := cell_of_row (w15) (w.heap.size) 0 _ _ (0, 0) hxA_15
  have kA1_15 : (w15).cell? ⟨w.heap.size, 1, none⟩ = some _ := cell_of_row (w15) (w.heap.size) 1 _ _ (0, 0) hxA_15
  have kW0_15 : (w15).cell? ⟨w4.heap.size, 0, none⟩ = some _ := cell_of_row (w15) (w4.heap.size) 0 _ _ (0, 0) hxW_15
  have kW1_15 : (w15).cell? ⟨w4.heap.size, 1, none⟩ = some _ := cell_of_row (w15) (w4.heap.size) 1 _ _ (0, 0) hxW_15
  have kX0_15 : (w15).cell? ⟨w5.heap.size, 0, none⟩ = some _ := cell_of_row (w15) (w5.heap.size) 0 _ _ (0, 0) hxX_15
  have kX1_15 : (w15).cell? ⟨w5.heap.size, 1, none⟩ = some _ := cell_of_row (w15) (w5.heap.size) 1 _ _ (0, 0) hxX_15
  have kG0_15 : (w15).cell? ⟨w7.heap.size, 0, none⟩ = some _ := cell_of_row (w15) (w7.heap.size) 0 _ _ (0, 0) hxG_15
  have kG1_15 : (w15).cell? ⟨w7.heap.size, 1, none⟩ = some _ := cell_of_row (w15) (w7.heap.size) 1 _ _ (0, 0) hxG_15
  try simp only [List.getElem?_toArray, List.getElem?_cons_zero, List.getElem?_cons_succ] at kA0_15 kA1_15 kW0_15 kW1_15 kX0_15 kX1_15 kG0_15 kG1_15
  go_wp2_with fail
  refine (HMG (w15) _ (.slice aoG R2.length acG) hoG_15).mono ?_
  rintro e w16 ⟨rfl, hoM_16, hg16⟩
  have hs16 := hg16.size
  have hB_16 : Below w.heap.size w w16 := hB_15.grown hg16 hB_15.size (fun q hq => by have := (hvG q hq).1; omega)
  have hoW_16 := owns_grown hoW_15 hg16 (fun q hq h => by have h1 := hvG q hq; have h2 := hvW q h; omega)
  have hxA_16 := (hg16.block (w.heap.size) hlA_15 (fun h => by have h1 := hvG _ h.symm; omega)).trans hxA_15
  have hlA_16 := Nat.lt_of_lt_of_le hlA_15 hg16.size
  have hxW_16 := (hg16.block (w4.heap.size) hlW_15 (fun h => by have h1 := hvG _ h.symm; omega)).trans hxW_15
  have hlW_16 := Nat.lt_of_lt_of_le hlW_15 hg16.size
  have hxX_16 := (hg16.block (w5.heap.size) hlX_15 (fun h => by have h1 := hvG _ h.symm; omega)).trans hxX_15
  have hlX_16 := Nat.lt_of_lt_of_le hlX_15 hg16.size
  have hxG_16 := (hg16.block (w7.heap.size) hlG_15 (fun h => by have h1 := hvG _ h.symm; omega)).trans hxG_15
  have hlG_16 := Nat.lt_of_lt_of_le hlG_15 hg16.size
  clear hB_15 hoW_15 hoG_15 hxA_15 hlA_15 kA0_15 kA1_15 hxW_15 hlW_15 kW0_15 kW1_15 hxX_15 hlX_15 kX0_15 kX1_15 hxG_15 hlG_15 kG0_15 kG1_15 hg16
  have kA0_16 : (w16).cell? ⟨w.heap.size, 0, none⟩ = some _ := cell_of_row (w16) (w.heap.size) 0 _ _ (0, 0) hxA_16
  have kA1_16 : (w16).cell? ⟨w.heap.size, 1, none⟩ = some _ := cell_of_row (w16) (w.heap.size) 1 _ _ (0, 0) hxA_16
  have kW0_16 : (w16).cell? ⟨w4.heap.size, 0, none⟩ = some _ := cell_of_row (w16) (w4.heap.size) 0 _ _ (0, 0) hxW_16
  have kW1_16 : (w16).cell? ⟨w4.heap.size, 1, none⟩ = some _ := cell_of_row (w16) (w4.heap.size) 1 _ _ (0, 0) hxW_16
  have kX0_16 : (w16).cell? ⟨w5.heap.size, 0, none⟩ = some _ := cell_of_row (w16) (w5.heap.size) 0 _ _ (0, 0) hxX_16
  have kX1_16 : (w16).cell? ⟨w5.heap.size, 1, none⟩ = some _ := cell_of_row (w16) (w5.heap.size) 1 _ _ (0, 0) hxX_16
  have kG0_16 : (w16).cell? ⟨w7.heap.size, 0, none⟩ = some _ := cell_of_row (w16) (w7.heap.size) 0 _ _ (0, 0) hxG_16
  have kG1_16 : (w16).cell? ⟨w7.heap.size, 1, none⟩ = some _ := cell_of_row (w16) (w7.heap.size) 1 _ _ (0, 0) hxG_16
  try simp only [List.getElem?_toArray, List.getElem?_cons_zero, List.getElem?_cons_succ] at kA0_16 kA1_16 kW0_16 kW1_16 kX0_16 kX1_16 kG0_16 kG1_16
  have hvM := hoM_16.lt
  clear hvG hvX hvI
  go_wp2_with fail
  refine (HHD (w16) _ (.slice aoG R2.length acG) hoM_16).mono ?_
  rintro e w17 ⟨rfl, hb17⟩
  have hB_17 := hB_16.trans (hb17.mono hB_16.size)
  have hs17 := hb17.size
  try rw [World.size_alloc] at hs17
  have hoW_17 := owns_below hoW_16 hb17
  have hoM_17 := owns_below hoM_16 hb17
  have hxA_17 := (hb17.block (w.heap.size) hlA_16).trans hxA_16
  have hlA_17 := Nat.lt_of_lt_of_le hlA_16 hb17.size
  have hxW_17 := (hb17.block (w4.heap.size) hlW_16).trans hxW_16
  have hlW_17 := Nat.lt_of_lt_of_le hlW_16 hb17.size
  have hxX_17 := (hb17.block (w5.heap.size) hlX_16).trans hxX_16
  have hlX_17 := Nat.lt_of_lt_of_le hlX_16 hb17.size
  have hxG_17 := (hb17.block (w7.heap.size) hlG_16).trans hxG_16
  have hlG_17 := Nat.lt_of_lt_of_le hlG_16 hb17.size
  clear hB_16 hoW_16 hoM_16 hxA_16 hlA_16 kA0_16 kA1_16 hxW_16 hlW_16 kW0_16 kW1_16 hxX_16 hlX_16 kX0_16 kX1_16 hxG_16 hlG_16 kG0_16 kG1_16 hb17
  have kA0_17 : (w17).cell? ⟨w.heap.size, 0, none⟩ = some _ := cell_of_row (w17) (w.heap.size) 0 _ _ (0, 0) hxA_17
  have kA1_17 : (w17).cell? ⟨w.heap.size, 1, none⟩ = some _ := cell_of_row (w17) (w.heap.size) 1 _ _ (0, 0) hxA_17
  have kW0_17 : (w17).cell? ⟨w4.heap.size, 0, none⟩ = some _ := cell_of_row (w17) (w4.heap.size) 0 _ _ (0, 0) hxW_17
  have kW1_17 : (w17).cell? ⟨w4.heap.size, 1, none⟩ = some _ := cell_of_row (w17) (w4.heap.size) 1 _ _ (0, 0) hxW_17
  have kX0_17 : (w17).cell? ⟨w5.heap.size, 0, none⟩ = some _ := cell_of_row (w17) (w5.heap.size) 0 _ _ (0, 0) hxX_17
  have kX1_17 : (w17).cell? ⟨w5.heap.size, 1, none⟩ = some _ := cell_of_row (w17) (w5.heap.size) 1 _ _ (0, 0) hxX_17
  have kG0_17 : (w17).cell? ⟨w7.heap.size, 0, none⟩ = some _ := cell_of_row (w17) (w7.heap.size) 0 _ _ (0, 0) hxG_17
  have kG1_17 : (w17).cell? ⟨w7.heap.size, 1, none⟩ = some _ := cell_of_row (w17) (w7.heap.size) 1 _ _ (0, 0) hxG_17
  try simp only [List.getElem?_toArray, List.getElem?_cons_zero, List.getElem?_cons_succ] at kA0_17 kA1_17 kW0_17 kW1_17 kX0_17 kX1_17 kG0_17 kG1_17
  go_wp2_with fail
  refine (HTO (w17) hB_17).mono ?_
  rintro e w18 ⟨v5, rfl, ho5_18, hb18⟩
  have hB_18 := hB_17.trans (hb18.mono hB_17.size)
  have hs18 := hb18.size
  try rw [World.size_alloc] at hs18
  have hoW_18 := owns_below hoW_17 hb18
  have hoM_18 := owns_below hoM_17 hb18
  have hxA_18 := (hb18.block (w.heap.size) hlA_17).trans hxA_17
  have hlA_18 := Nat.lt_of_lt_of_le hlA_17 hb18.size
  have hxW_18 := (hb18.block (w4.heap.size) hlW_17).trans hxW_17
  have hlW_18 := Nat.lt_of_lt_of_le hlW_17 hb18.size
  have hxX_18 := (hb18.block (w5.heap.size) hlX_17).trans hxX_17
  have hlX_18 := Nat.lt_of_lt_of_le hlX_17 hb18.size
  have hxG_18 := (hb18.block (w7.heap.size) hlG_17).trans hxG_17
  have hlG_18 := Nat.lt_of_lt_of_le hlG_17 hb18.size
  clear hB_17 hoW_17 hoM_17 hxA_17 hlA_17 kA0_17 kA1_17 hxW_17 hlW_17 kW0_17 kW1_17 hxX_17 hlX_17 kX0_17 kX1_17 hxG_17 hlG_17 kG0_17 kG1_17 hb18
  obtain ⟨ao5, ac5, hv5⟩ := ownG_shape ho5_18
  subst hv5
  have hv5 := ho5_18.lt
  try simp only [World.size_alloc] at hv5
  have kA0_18 : (w18).cell? ⟨w.heap.size, 0, none⟩ = some _ := cell_of_row (w18) (w.heap.size) 0 _ _ (0, 0) hxA_18
  have kA1_18 : (w18).cell? ⟨w.heap.size, 1, none⟩ = some _ := cell_of_row (w18) (w.heap.size) 1 _ _ (0, 0) hxA_18
  have kW0_18 : (w18).cell? ⟨w4.heap.size, 0, none⟩ = some _ := cell_of_row (w18) (w4.heap.size) 0 _ _ (0, 0) hxW_18
  have kW1_18 : (w18).cell? ⟨w4.heap.size, 1, none⟩ = some _ := cell_of_row (w18) (w4.heap.size) 1 _ _ (0, 0) hxW_18
  have kX0_18 : (w18).cell? ⟨w5.heap.size, 0, none⟩ = some _ := cell_of_row (w18) (w5.heap.size) 0 _ _ (0, 0) hxX_18
  have kX1_18 : (w18).cell? ⟨w5.heap.size, 1, none⟩ = some _ := cell_of_row (w18) (w5.heap.size) 1 _ _ (0, 0) hxX_18
  have kG0_18 : (w18).cell? ⟨w7.heap.size, 0, none⟩ = some _ := cell_of_row (w18) (w7.heap.size) 0 _ _ (0, 0) hxG_18
  have kG1_18 : (w18).cell? ⟨w7.heap.size, 1, none⟩ = some _ := cell_of_row (w18) (w7.heap.size) 1 _ _ (0, 0) hxG_18
  try simp only [List.getElem?_toArray, List.getElem?_cons_zero, List.getElem?_cons_succ] at kA0_18 kA1_18 kW0_18 kW1_18 kX0_18 kX1_18 kG0_18 kG1_18
  go_wp2_with fail
  refine (HTI (w18) hB_18).mono ?_
  rintro e w19 ⟨v6, rfl, ho6_19, hb19⟩
  have hB_19 := hB_18.trans (hb19.mono hB_18.size)
  have hs19 := hb19.size
  try rw [World.size_alloc] at hs19
  have hoW_19 := owns_below hoW_18 hb19
  have hoM_19 := owns_below hoM_18 hb19
  have ho5_19 := owns_below ho5_18 hb19
  have hxA_19 := (hb19.block (w.heap.size) hlA_18).trans hxA_18
  have hlA_19 := Nat.lt_of_lt_of_le hlA_18 hb19.size
  have hxW_19 := (hb19.block (w4.heap.size) hlW_18).trans hxW_18
  have hlW_19 := Nat.lt_of_lt_of_le hlW_18 hb19.size
  have hxX_19 := (hb19.block (w5.heap.size) hlX_18).trans hxX_18
  have hlX_19 := Nat.lt_of_lt_of_le hlX_18 hb19.size
  have hxG_19 := (hb19.block (w7.heap.size) hlG_18).trans hxG_18
  have hlG_19 := Nat.lt_of_lt_of_le hlG_18 hb19.size
  clear hB_18 hoW_18 hoM_18 ho5_18 hxA_18 hlA_18 kA0_18 kA1_18 hxW_18 hlW_18 kW0_18 kW1_18 hxX_18 hlX_18 kX0_18 kX1_18 hxG_18 hlG_18 kG0_18 kG1_18 hb19
  obtain ⟨ao6, ac6, hv6⟩ := owns_slice ho6_19
  subst hv6
  have hv6 := ho6_19.lt
  try simp only [World.size_alloc] at hv6
  have kA0_19 : (w19).cell? ⟨w.heap.size, 0, none⟩ = some _ := cell_of_row (w19) (w.heap.size) 0 _ _ (0, 0) hxA_19
  have kA1_19 : (w19).cell? ⟨w.heap.size, 1, none⟩ = some _ := cell_of_row (w19) (w.heap.size) 1 _ _ (0, 0) hxA_19
  have kW0_19 : (w19).cell? ⟨w4.heap.size, 0, none⟩ = some _ := cell_of_row (w19) (w4.heap.size) 0 _ _ (0, 0) hxW_19
  have kW1_19 : (w19).cell? ⟨w4.heap.size, 1, none⟩ = some _ := cell_of_row (w19) (w4.heap.size) 1 _ _ (0, 0) hxW_19
  have kX0_19 : (w19).cell? ⟨w5.heap.size, 0, none⟩ = some _ := cell_of_row (w19) (w5.heap.size) 0 _ _ (0, 0) hxX_19
  have kX1_19 : (w19).cell? ⟨w5.heap.size, 1, none⟩ = some _ := cell_of_row (w19) (w5.heap.size) 1 _ _ (0, 0) hxX_19
  have kG0_19 : (w19).cell? ⟨w7.heap.size, 0, none⟩ = some _ := cell_of_row (w19) (w7.heap.size) 0 _ _ (0, 0) hxG_19
  have kG1_19 : (w19).cell? ⟨w7.heap.size, 1, none⟩ = some _ := cell_of_row (w19) (w7.heap.size) 1 _ _ (0, 0) hxG_19
  try simp only [List.getElem?_toArray, List.getElem?_cons_zero, List.getElem?_cons_succ] at kA0_19 kA1_19 kW0_19 kW1_19 kX0_19 kX1_19 kG0_19 kG1_19
  go_wp2_with fail
  refine (HIM (w19) _ _ (rdG_owns itW ho5_19) (rd_owns ho6_19)).mono ?_
  rintro e w20 ⟨vH, rfl, hoH_20, hb20⟩
  have hB_20 := hB_19.trans (hb20.mono hB_19.size)
  have hs20 := hb20.size
  try rw [World.size_alloc] at hs20
  have hoW_20 := owns_below hoW_19 hb20
  have hoM_20 := owns_below hoM_19 hb20
  have ho5_20 := owns_below ho5_19 hb20
  have ho6_20 := owns_below ho6_19 hb20
  have hxA_20 := (hb20.block (w.heap.size) hlA_19).trans hxA_19
  have hlA_20 := Nat.lt_of_lt_of_le hlA_19 hb20.size
  have hxW_20 := (hb20.block (w4.heap.size) hlW_19).trans hxW_19
  have hlW_20 := Nat.lt_of_lt_of_le hlW_19 hb20.size
  have hxX_20 := (hb20.block (w5.heap.size) hlX_19).trans hxX_19
  have hlX_20 := Nat.lt_of_lt_of_le hlX_19 hb20.size
  have hxG_20 := (hb20.block (w7.heap.size) hlG_19).trans hxG_19
  have hlG_20 := Nat.lt_of_lt_of_le hlG_19 hb20.size
  clear hB_19 hoW_19 hoM_19 ho5_19 ho6_19 hxA_19 hlA_19 kA0_19 kA1_19 hxW_19 hlW_19 kW0_19 kW1_19 hxX_19 hlX_19 kX0_19 kX1_19 hxG_19 hlG_19 kG0_19 kG1_19 hb20
  obtain ⟨aoH, acH, hvH⟩ := ownG_shape hoH_20
  subst hvH
  have hvH := hoH_20.lt
  try simp only [World.size_alloc] at hvH
  have kA0_20 : (w20).cell? ⟨w.heap.size, 0, none⟩ = some _ := cell_of_row (w20) (w.heap.size) 0 _ _ (0, 0) hxA_20
  have kA1_20 : (w20).cell? ⟨w.heap.size, 1, none⟩ = some _ := cell_of_row (w20) (w.heap.size) 1 _ _ (0, 0) hxA_20
  have kW0_20 : (w20).cell? ⟨w4.heap.size, 0, none⟩ = some _ := cell_of_row (w20) (w4.heap.size) 0 _ _ (0, 0) hxW_20
  have kW1_20 : (w20).cell? ⟨w4.heap.size, 1, none⟩ = some _ := cell_of_row (w20) (w4.heap.size) 1 _ _ (0, 0) hxW_20
  have kX0_20 : (w20).cell? ⟨w5.heap.size, 0, none⟩ = some _ := cell_of_row (w20) (w5.heap.size) 0 _ _ (0, 0) hxX_20
  have kX1_20 : (w20).cell? ⟨w5.heap.size, 1, none⟩ = some _ := cell_of_row (w20) (w5.heap.size) 1 _ _ (0, 0) hxX_20
  have kG0_20 : (w20).cell? ⟨w7.heap.size, 0, none⟩ = some _ := cell_of_row (w20) (w7.heap.size) 0 _ _ (0, 0) hxG_20
  have kG1_20 : (w20).cell? ⟨w7.heap.size, 1, none⟩ = some _ := cell_of_row (w20) (w7.heap.size) 1 _ _ (0, 0) hxG_20
  try simp only [List.getElem?_toArray, List.getElem?_cons_zero, List.getElem?_cons_succ] at kA0_20 kA1_20 kW0_20 kW1_20 kX0_20 kX1_20 kG0_20 kG1_20
  clear ho5_20
  clear ho6_20
  have hB_20a : Below w.heap.size w (w20.alloc (.cells #[.int .i64 R1, .slice aoH R2.length acH] 29)) := hB_20.alloc hB_20.size _
  have hoW_20a := hoW_20.alloc (.cells #[.int .i64 R1, .slice aoH R2.length acH] 29)
  have hoM_20a := hoM_20.alloc (.cells #[.int .i64 R1, .slice aoH R2.length acH] 29)
  have hoH_20a := hoH_20.alloc (.cells #[.int .i64 R1, .slice aoH R2.length acH] 29)
  have hxA_20a : (w20.alloc (.cells #[.int .i64 R1, .slice aoH R2.length acH] 29)).heap[w.heap.size]? = _ := (heap_alloc_old w20 _ hlA_20).trans hxA_20
  have hlA_20a : w.heap.size < (w20.alloc (.cells #[.int .i64 R1, .slice aoH R2.length acH] 29)).heap.size := by rw [World.size_alloc]; omega
  have hxW_20a : (w20.alloc (.cells #[.int .i64 R1, .slice aoH R2.length acH] 29)).heap[w4.heap.size]? = _ := (heap_alloc_old w20 _ hlW_20).trans hxW_20
  have hlW_20a : w4.heap.size < (w20.alloc (.cells #[.int .i64 R1, .slice aoH R2.length acH] 29)).heap.size := by rw [World.size_alloc]; omega
  have hxX_20a : (w20.alloc (.cells #[.int .i64 R1, .slice aoH R2.length acH] 29)).heap[w5.heap.size]? = _ := (heap_alloc_old w20 _ hlX_20).trans hxX_20
  have hlX_20a : w5.heap.size < (w20.alloc (.cells #[.int .i64 R1, .slice aoH R2.length acH] 29)).heap.size := by rw [World.size_alloc]; omega
  have hxG_20a : (w20.alloc (.cells #[.int .i64 R1, .slice aoH R2.length acH] 29)).heap[w7.heap.size]? = _ := (heap_alloc_old w20 _ hlG_20).trans hxG_20
  have hlG_20a : w7.heap.size < (w20.alloc (.cells #[.int .i64 R1, .slice aoH R2.length acH] 29)).heap.size := by rw [World.size_alloc]; omega
  clear hB_20 hoW_20 hoM_20 hoH_20 hxA_20 hlA_20 kA0_20 kA1_20 hxW_20 hlW_20 kW0_20 kW1_20 hxX_20 hlX_20 kX0_20 kX1_20 hxG_20 hlG_20 kG0_20 kG1_20
  have hxH_20a : (w20.alloc (.cells #[.int .i64 R1, .slice aoH R2.length acH] 29)).heap[w20.heap.size]? = _ := heap_alloc_new w20 _
  have hlH_20a : w20.heap.size < (w20.alloc (.cells #[.int .i64 R1, .slice aoH R2.length acH] 29)).heap.size := by rw [World.size_alloc]; omega
  have kA0_20a : (w20.alloc (.cells #[.int .i64 R1, .slice aoH R2.length acH] 29)).cell? ⟨w.heap.size, 0, none⟩ = some _ := cell_of_row (w20.alloc (.cells #[.int .i64 R1, .slice aoH R2.length acH] 29)) (w.heap.size) 0 _ _ (0, 0) hxA_20a
  have kA1_20a : (w20.alloc (.cells #[.int .i64 R1, .slice aoH R2.length acH] 29)).cell? ⟨w.heap.size, 1, none⟩ = some _ := cell_of_row (w20.alloc (.cells #[.int .i64 R1, .slice aoH R2.length acH] 29)) (w.heap.size) 1 _ _ (0, 0) hxA_20a
  have kW0_20a : (w20.alloc (.cells #[.int .i64 R1, .slice aoH R2.length acH] 29)).cell? ⟨w4.heap.size, 0, none⟩ = some _ := cell_of_row (w20.alloc (.cells #[.int .i64 R1, .slice aoH R2.length acH] 29)) (w4.heap.size) 0 _ _ (0, 0) hxW_20a
  have kW1_20a : (w20.alloc (.cells #[.int .i64 R1, .slice aoH R2.length acH] 29)).cell? ⟨w4.heap.size, 1, none⟩ = some _ := cell_of_row (w20.alloc (.cells #[.int .i64 R1, .slice aoH R2.length acH] 29)) (w4.heap.size) 1 _ _ (0, 0) hxW_20a
  have kX0_20a : (w20.alloc (.cells #[.int .i64 R1, .slice aoH R2.length acH] 29)).cell? ⟨w5.heap.size, 0, none⟩ = some _ := cell_of_row (w20.alloc (.cells #[.int .i64 R1, .slice aoH R2.length acH] 29)) (w5.heap.size) 0 _ _ (0, 0) hxX_20a
  have kX1_20a : (w20.alloc (.cells #[.int .i64 R1, .slice aoH R2.length acH] 29)).cell? ⟨w5.heap.size, 1, none⟩ = some _ := cell_of_row (w20.alloc (.cells #[.int .i64 R1, .slice aoH R2.length acH] 29)) (w5.heap.size) 1 _ _ (0, 0) hxX_20a
  have kG0_20a : (w20.alloc (.cells #[.int .i64 R1, .slice aoH R2.length acH] 29)).cell? ⟨w7.heap.size, 0, none⟩ = some _ := cell_of_row (w20.alloc (.cells #[.int .i64 R1, .slice aoH R2.length acH] 29)) (w7.heap.size) 0 _ _ (0, 0) hxG_20a
  have kG1_20a : (w20.alloc (.cells #[.int .i64 R1, .slice aoH R2.length acH] 29)).cell? ⟨w7.heap.size, 1, none⟩ = some _ := cell_of_row (w20.alloc (.cells #[.int .i64 R1, .slice aoH R2.length acH] 29)) (w7.heap.size) 1 _ _ (0, 0) hxG_20a
  have kH0_20a : (w20.alloc (.cells #[.int .i64 R1, .slice aoH R2.length acH] 29)).cell? ⟨w20.heap.size, 0, none⟩ = some _ := cell_of_row (w20.alloc (.cells #[.int .i64 R1, .slice aoH R2.length acH] 29)) (w20.heap.size) 0 _ _ (0, 0) hxH_20a
  have kH1_20a : (w20.alloc (.cells #[.int .i64 R1, .slice aoH R2.length acH] 29)).cell? ⟨w20.heap.size, 1, none⟩ = some _ := cell_of_row (w20.alloc (.cells #[.int .i64 R1, .slice aoH R2.length acH] 29)) (w20.heap.size) 1 _ _ (0, 0) hxH_20a
  try simp only [List.getElem?_toArray, List.getElem?_cons_zero, List.getElem?_cons_succ] at kA0_20a kA1_20a kW0_20a kW1_20a kX0_20a kX1_20a kG0_20a kG1_20a kH0_20a kH1_20a
  go_wp2_with fail
  refine (eqShelf_same R1 (.slice aoH R2.length acH) (.slice aoW R2.length acW) R2 (w20.alloc (.cells #[.int .i64 R1, .slice aoH R2.length acH] 29)) (rdG_owns itW hoH_20a) (rdG_owns itW hoW_20a) hlR).mono ?_
  rintro e w21 ⟨rfl, hb21⟩
  have hB_21 := hB_20a.trans (hb21.mono hB_20a.size)
  have hs21 := hb21.size
  try rw [World.size_alloc] at hs21
  have hoW_21 := owns_below hoW_20a hb21
  have hoM_21 := owns_below hoM_20a hb21
  have hoH_21 := owns_below hoH_20a hb21
  have hxA_21 := (hb21.block (w.heap.size) hlA_20a).trans hxA_20a
  have hlA_21 := Nat.lt_of_lt_of_le hlA_20a hb21.size
  have hxW_21 := (hb21.block (w4.heap.size) hlW_20a).trans hxW_20a
  have hlW_21 := Nat.lt_of_lt_of_le hlW_20a hb21.size
  have hxX_21 := (hb21.block (w5.heap.size) hlX_20a).trans hxX_20a
  have hlX_21 := Nat.lt_of_lt_of_le hlX_20a hb21.size
  have hxG_21 := (hb21.block (w7.heap.size) hlG_20a).trans hxG_20a
  have hlG_21 := Nat.lt_of_lt_of_le hlG_20a hb21.size
  have hxH_21 := (hb21.block (w20.heap.size) hlH_20a).trans hxH_20a
  have hlH_21 := Nat.lt_of_lt_of_le hlH_20a hb21.size
  clear hB_20a hoW_20a hoM_20a hoH_20a hxA_20a hlA_20a kA0_20a kA1_20a hxW_20a hlW_20a kW0_20a kW1_20a hxX_20a hlX_20a kX0_20a kX1_20a hxG_20a hlG_20a kG0_20a kG1_20a hxH_20a hlH_20a kH0_20a kH1_20a hb21
  have kA0_21 : (w21).cell? ⟨w.heap.size, 0, none⟩ = some _ := cell_of_row (w21) (w.heap.size) 0 _ _ (0, 0) hxA_21
  have kA1_21 : (w21).cell? ⟨w.heap.size, 1, none⟩ = some _ := cell_of_row (w21) (w.heap.size) 1 _ _ (0, 0) hxA_21
  have kW0_21 : (w21).cell? ⟨w4.heap.size, 0, none⟩ = some _ := cell_of_row (w21) (w4.heap.size) 0 _ _ (0, 0) hxW_21
  have kW1_21 : (w21).cell? ⟨w4.heap.size, 1, none⟩ = some _ := cell_of_row (w21) (w4.heap.size) 1 _ _ (0, 0) hxW_21
  have kX0_21 : (w21).cell? ⟨w5.heap.size, 0, none⟩ = some _ := cell_of_row (w21) (w5.heap.size) 0 _ _ (0, 0) hxX_21
  have kX1_21 : (w21).cell? ⟨w5.heap.size, 1, none⟩ = some _ := cell_of_row (w21) (w5.heap.size) 1 _ _ (0, 0) hxX_21
  have kG0_21 : (w21).cell? ⟨w7.heap.size, 0, none⟩ = some _ := cell_of_row (w21) (w7.heap.size) 0 _ _ (0, 0) hxG_21
  have kG1_21 : (w21).cell? ⟨w7.heap.size, 1, none⟩ = some _ := cell_of_row (w21) (w7.heap.size) 1 _ _ (0, 0) hxG_21
  have kH0_21 : (w21).cell? ⟨w20.heap.size, 0, none⟩ = some _ := cell_of_row (w21) (w20.heap.size) 0 _ _ (0, 0) hxH_21
  have kH1_21 : (w21).cell? ⟨w20.heap.size, 1, none⟩ = some _ := cell_of_row (w21) (w20.heap.size) 1 _ _ (0, 0) hxH_21
  try simp only [List.getElem?_toArray, List.getElem?_cons_zero, List.getElem?_cons_succ] at kA0_21 kA1_21 kW0_21 kW1_21 kX0_21 kX1_21 kG0_21 kG1_21 kH0_21 kH1_21
  go_wp2_with fail
  refine (HHD (w21) _ (.slice aoG R2.length acG) hoM_21).mono ?_
  rintro e w22 ⟨rfl, hb22⟩
  have hB_22 := hB_21.trans (hb22.mono hB_21.size)
  have hs22 := hb22.size
  try rw [World.size_alloc] at hs22
  have hoW_22 := owns_below hoW_21 hb22
  have hoM_22 := owns_below hoM_21 hb22
  have hoH_22 := owns_below hoH_21 hb22
  have hxA_22 := (hb22.block (w.heap.size) hlA_21).trans hxA_21
  have hlA_22 := Nat.lt_of_lt_of_le hlA_21 hb22.size
  have hxW_22 := (hb22.block (w4.heap.size) hlW_21).trans hxW_21
  have hlW_22 := Nat.lt_of_lt_of_le hlW_21 hb22.size
  have hxX_22 := (hb22.block (w5.heap.size) hlX_21).trans hxX_21
  have hlX_22 := Nat.lt_of_lt_of_le hlX_21 hb22.size
  have hxG_22 := (hb22.block (w7.heap.size) hlG_21).trans hxG_21
  have hlG_22 := Nat.lt_of_lt_of_le hlG_21 hb22.size
  have hxH_22 := (hb22.block (w20.heap.size) hlH_21).trans hxH_21
  have hlH_22 := Nat.lt_of_lt_of_le hlH_21 hb22.size
  clear hB_21 hoW_21 hoM_21 hoH_21 hxA_21 hlA_21 kA0_21 kA1_21 hxW_21 hlW_21 kW0_21 kW1_21 hxX_21 hlX_21 kX0_21 kX1_21 hxG_21 hlG_21 kG0_21 kG1_21 hxH_21 hlH_21 kH0_21 kH1_21 hb22
  have kA0_22 : (w22).cell? ⟨w.heap.size, 0, none⟩ = some _ := cell_of_row (w22) (w.heap.size) 0 _ _ (0, 0) hxA_22
  have kA1_22 : (w22).cell? ⟨w.heap.size, 1, none⟩ = some _ := cell_of_row (w22) (w.heap.size) 1 _ _ (0, 0) hxA_22
  have kW0_22 : (w22).cell? ⟨w4.heap.size, 0, none⟩ = some _ := cell_of_row (w22) (w4.heap.size) 0 _ _ (0, 0) hxW_22
  have kW1_22 : (w22).cell? ⟨w4.heap.size, 1, none⟩ = some _ := cell_of_row (w22) (w4.heap.size) 1 _ _ (0, 0) hxW_22
  have kX0_22 : (w22).cell? ⟨w5.heap.size, 0, none⟩ = some _ := cell_of_row (w22) (w5.heap.size) 0 _ _ (0, 0) hxX_22
  have kX1_22 : (w22).cell? ⟨w5.heap.size, 1, none⟩ = some _ := cell_of_row (w22) (w5.heap.size) 1 _ _ (0, 0) hxX_22
  have kG0_22 : (w22).cell? ⟨w7.heap.size, 0, none⟩ = some _ := cell_of_row (w22) (w7.heap.size) 0 _ _ (0, 0) hxG_22
  have kG1_22 : (w22).cell? ⟨w7.heap.size, 1, none⟩ = some _ := cell_of_row (w22) (w7.heap.size) 1 _ _ (0, 0) hxG_22
  have kH0_22 : (w22).cell? ⟨w20.heap.size, 0, none⟩ = some _ := cell_of_row (w22) (w20.heap.size) 0 _ _ (0, 0) hxH_22
  have kH1_22 : (w22).cell? ⟨w20.heap.size, 1, none⟩ = some _ := cell_of_row (w22) (w20.heap.size) 1 _ _ (0, 0) hxH_22
  try simp only [List.getElem?_toArray, List.getElem?_cons_zero, List.getElem?_cons_succ] at kA0_22 kA1_22 kW0_22 kW1_22 kX0_22 kX1_22 kG0_22 kG1_22 kH0_22 kH1_22
  have HB := Lib.hid hB_22
  clear hB_22 hoW_22 hoM_22 hoH_22 hxA_22 hlA_22 kA0_22 kA1_22 hxW_22 hlW_22 kW0_22 kW1_22 hxX_22 hlX_22 kX0_22 kX1_22 hxG_22 hlG_22 kG0_22 kG1_22 hxH_22 hlH_22 kH0_22 kH1_22
  go_wp2
  go_ret
  exact ⟨rfl, HB.out⟩

set_option maxRecDepth 100000 in
theorem lifted (os : Os) (started : os.Started) (H : Type) (enc : TypeId × Value → H) :
    ReturnsInHanded {} Try.checked os 3 .any (Rows.fnExactSweptSpec.pre6 enc Try.prog Try.f3 Rows.fnExactSweptRow.domain false) (Rows.fnExactSweptSpec.post enc Try.prog Try.f3 false true false false) := by
  refine returnsInHanded_of_change (C := Try.checked) own started (by kernel_rfl) Try.func3
    (ChangeSpec.witness6 (enc := enc) (C := Try.checked) false ⟨#[], #[.agg #[.int .i64 0, .slice none 0 0], .int .i64 0, .slice none 0 0], []⟩ 8 (by kernel_rfl) (by kernel_rfl) (by kernel_rfl) (by kernel_rfl)) ?_
  intro W base args ds gs before hval0 hW hcnd _
  have hval : ∀ (j : Nat) t v, Try.f3.params[j]? = some t → args[j]? = some v → Value.okWide Try.prog W .any base t v := hval0
  have hW' := hW
  obtain ⟨p, q, hA0, hV, rfl, hfz, hnd⟩ := hW
  have hA : DataW.TrodAll enc Try.prog W 0 (fun _ => true) true Try.f3.params.toList args.toList ds p := hA0
  rw [Try.params3] at hA hval
  obtain ⟨v0, vs0, d0, ds0, p0, q0, hargs0, rfl, rfl, h0, r0⟩ := trodAll_cons hA
  obtain ⟨v1, vs1, d1, ds1, p1, q1, hargs1, rfl, rfl, h1, r1⟩ := trodAll_cons r0
  obtain ⟨v2, vs2, d2, ds2, p2, q2, hargs2, rfl, rfl, h2, r2⟩ := trodAll_cons r1
  obtain ⟨rfl, rfl, rfl⟩ := trodAll_nil r2
  obtain rfl : args = #[v0, v1, v2] := by cases args; simp_all
  obtain ⟨rfl, rfl⟩ := trodVars_none hV
  have k0 := h0
  have lt0 : ∀ x ∈ p0, x.block < W.heap.size := by obtain ⟨m, hm⟩ := k0; exact DataW.trod_lt m _ _ _ hm
  obtain ⟨x0, va0, zs0, rfl, hr0, hs0, hn0, wx0⟩ := arg_shelf (hval 0 24 v0 rfl rfl) h0
  obtain ⟨a1, rfl, rfl, rfl, w1⟩ := open_int Try.underlying2 (hval 1 2 v1 rfl rfl) h1
  obtain ⟨a2, len2, cap2, rfl⟩ := okWide_slice Try.underlying25 (hval 2 25 v2 rfl rfl)
  have k2 := h2
  have lt2 : ∀ x ∈ p2, x.block < W.heap.size := by obtain ⟨m, hm⟩ := k2; exact DataW.trod_lt m _ _ _ hm
  obtain ⟨zs2, hr2, hs2⟩ : ∃ zs : List Int, Rd W (.slice a2 len2 cap2) (zs.map (Value.int .i64)) ∧ ((∀ n ∈ zs, (Lit.int .i64 n).wf = true) ∧ zs.length ≤ 9223372036854775807) := by
    obtain ⟨fuel, hf⟩ := h2
    rcases open_ints Try.underlying25 Try.underlying2 (by kernel_rfl) hf with ⟨hcs, _⟩ | ⟨x, l, c, zs, hcs, _, hl, hm, hz, _, hcell, hwz⟩
    · simp [Value.cells] at hcs
      obtain ⟨rfl, rfl, rfl⟩ := hcs
      exact ⟨[], ⟨none, 0, rfl, Nat.le_refl _, fun h => absurd rfl h⟩, (fun x hx => absurd hx List.not_mem_nil), Nat.zero_le _⟩
    · simp [Value.cells] at hcs
      obtain ⟨rfl, rfl, rfl⟩ := hcs
      exact arg_ints .i64 hl hm (by simpa using hz) hcell hwz
  clear hA0 hval0
  refine (walk x0 va0 zs0 a1 _ zs2 W hr0 hs0 hn0 (wf_i64 w1).1 (wf_i64 w1).2 hr2 hs2.1 hs2.2).mono fun e W' ⟨he, bel⟩ => ?_
  subst he
  exact ⟨_, rfl, _, _, _, [], _, [], hW', trodAll_mk1 (shut_bool Try.underlying4 _), (trodAll_cons_mk (Below.trod laidOut (by kernel_rfl) (of_decide_eq_true (by kernel_rfl)) k0 bel lt0) (trodAll_cons_mk (shut_int Try.underlying2 w1) (trodAll_cons_mk (Below.trod laidOut (by kernel_rfl) (of_decide_eq_true (by kernel_rfl)) k2 bel lt2) trodAll_mk0))), rfl, bel.frame _, fun h => by cases h⟩

theorem over : Rows.fnExactSweptRow.holds Try.pinned (OpenSpec.ofChange Rows.fnExactSweptSpec) :=
  OpenClaim.holds_of_wide 3 Try.f3 rfl rfl rfl rfl rfl rfl rfl ⟨rfl, rfl, rfl, rfl, rfl⟩ rfl rfl rfl rfl rfl (by kernel_rfl) Try.func3 (by kernel_rfl)
    (of_decide_eq_true (by kernel_rfl)) (by unfold Func.isWrapper; first | (rw [if_pos (by decide +kernel)]; kernel_rfl) | (rw [if_neg (by decide +kernel)]; exact ⟨rfl, rfl⟩))
    (fun os started H enc _ => lifted os started H enc)

theorem proved : Rows.FnExactSweptSaid := over
end Go.Proofs.Ytfoncmeplofedaq.exSwept
