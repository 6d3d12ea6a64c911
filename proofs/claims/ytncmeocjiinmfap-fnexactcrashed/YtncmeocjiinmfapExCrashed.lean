/- FnExactCrashed: at every argument impl.Crashed answers as spec.Crashed, writes into no argument and keeps nothing of one. For every one, without a condition. (Written by lawgen13.py.) -/
import Derived.Test.YtncmeocjiinmfapShZ
import Derived.Test.YtncmeocjiinmfapShK
import Derived.Test.YtncmeocjiinmfapItM
import Derived.Test.YtncmeocjiinmfapArgItems
import Derived.Test.YtncmeocjiinmfapShV
namespace Go.Proofs.Ytncmeocjiinmfap.exCrashed
open Go.ChangeShapes Go.WideShapes Go.ChangeAt Go.RowKit
set_option linter.unusedVariables false
set_option linter.unusedSimpArgs false
set_option maxHeartbeats 8000000 in
set_option maxRecDepth 100000 in
theorem walk (r : Int) (va : Value) (xs : List It) (w : World) (ha : RdG itf 5 w va xs) (hza : ∀ s ∈ xs, ItWf s) (hna : xs.length ≤ 9223372036854775807) :
    Calls Try.prog 6 #[.agg #[.int .i64 r, va]] w fun e w' => e = .returned (.bool true) ∧ Below w.heap.size w w' := by
  have hB_a : Below w.heap.size w (w.alloc (.cells #[.int .i64 r, va] 24)) := (Below.refl w.heap.size w).alloc (Nat.le_refl _) _
  have hsz := szShelf_any r va xs 1048576 (w.alloc (.cells #[.int .i64 r, va] 24)) (rdG_below ha hB_a) hna (fun p hp => (hza p hp).2.1) (by omega) (by omega)
  by_cases hbig : szS (itTx xs) 1048576 < 0
  · obtain ⟨ao, cap, rfl⟩ := rdG_shape ha
    generalize szS (itTx xs) 1048576 = z at hsz hbig
    have HB := Lib.hid hB_a
    clear ha hza hB_a
    go_enter Try.func6, Try.ntmps6
    go_wp2_with fail
    refine hsz.mono ?_
    rintro e w1 ⟨rfl, hb1⟩
    have HB1 := Lib.hid (HB.out.trans (hb1.mono HB.out.size))
    clear hsz hb1
    go_wp2
    go_ret
    exact ⟨rfl, HB1.out⟩
  obtain ⟨hlx, hsx⟩ := szS_small (xs := itTx xs) (by omega)
  have hl : xs.length ≤ 1048576 := by rw [List.length_map] at hlx; exact hlx
  have hst : ∀ p ∈ xs, p.2.1.size ≤ 1048576 := fun p hp => hsx p.2.1 (List.mem_map_of_mem hp)
  have HTO := fun (W : World) (h : Below w.heap.size w W) => toShelf_any r va xs W (rdG_below ha h) hl
  obtain ⟨R1, hR1⟩ : ∃ z, z = (crashedT r xs).1 := ⟨_, rfl⟩
  obtain ⟨R2, hR2⟩ : ∃ z, z = (crashedT r xs).2 := ⟨_, rfl⟩
  have hlR : R2.length ≤ 1048576 := by rw [hR2]; exact crashedT_len r xs hl
  have HSP : ∀ (W : World) (v : Value), RdG itf 5 W v xs → Calls Try.prog 18 #[.agg #[.int .i64 r, v]] W fun e w' => ∃ u, e = .returned (.agg #[.int .i64 R1, u]) ∧ OwnI w' W.heap.size u R2 ∧ Below W.heap.size W w' := fun W v h => by rw [hR1, hR2]; exact specCrashed_any r v xs W h hl hst
  have HIM : ∀ (W : World) (v : Value), RdG itf 5 W v xs → Calls Try.prog 19 #[.agg #[.int .i64 r, v]] W fun e w' => ∃ u, e = .returned (.agg #[.int .i64 R1, u]) ∧ OwnI w' W.heap.size u R2 ∧ Below W.heap.size W w' := fun W v h => by rw [hR1, hR2]; exact implCrashed_any r v xs W h hl hst
  obtain ⟨X, hX⟩ : ∃ X : Nat, X = 1 + 5 * xs.length := ⟨_, rfl⟩
  have HX := Lib.hid hX
  have hX0 : ¬ ((X : Nat) : Int) < 0 := by omega
  obtain ⟨K, hK⟩ : ∃ K : Nat, K = 1 + 5 * R2.length := ⟨_, rfl⟩
  have HK := Lib.hid hK
  have hK0 : ¬ ((K : Nat) : Int) < 0 := by omega
  have HMX := fun (W : World) (b : Nat) (v : Value) (h : OwnI W b v xs) => (markShelf_any b r v 1 xs W h hl (by omega) (by omega)).mono (fun e w' (h9 : e = .returned (.int .i64 ((1 + 5 * xs.length : Nat) : Int)) ∧ OwnI w' b v (marksIt 1 xs.length) ∧ W.grownBy w' v.ownBlock) => (⟨by rw [HX.out]; exact h9.1, h9.2.2⟩ : e = .returned (.int .i64 (X : Int)) ∧ W.grownBy w' v.ownBlock))
  have HMG := fun (W : World) (b : Nat) (v : Value) (h : OwnI W b v R2) => (markShelf_any b R1 v 1 R2 W h hlR (by omega) (by omega)).mono (fun e w' (h9 : e = .returned (.int .i64 ((1 + 5 * R2.length : Nat) : Int)) ∧ OwnI w' b v (marksIt 1 R2.length) ∧ W.grownBy w' v.ownBlock) => (⟨by rw [HK.out]; exact h9.1, h9.2.1, h9.2.2⟩ : e = .returned (.int .i64 (K : Int)) ∧ OwnI w' b v (marksIt 1 R2.length) ∧ W.grownBy w' v.ownBlock))
  have HHD := fun (W : World) (b : Nat) (v : Value) (h : OwnI W b v (marksIt 1 R2.length)) => (heldShelf_any R1 v 1 R2.length W (rdG_owns itW h) hlR (by omega) (by omega)).mono (fun e w' (h9 : e = .returned (.int .i64 ((1 + 5 * R2.length : Nat) : Int)) ∧ Below W.heap.size W w') => (⟨by rw [HK.out]; exact h9.1, h9.2⟩ : e = .returned (.int .i64 (K : Int)) ∧ Below W.heap.size W w'))
  clear hR1 hR2 hX hK
  have HA0 : Hid (RdG itf 5 w va xs) := ha
  generalize szS (itTx xs) 1048576 = zz at hsz hbig
  obtain ⟨ao, cap, hva⟩ := rdG_shape ha
  have hxA_a : (w.alloc (.cells #[.int .i64 r, va] 24)).heap[w.heap.size]? = _ := heap_alloc_new w _
  have hlA_a : w.heap.size < (w.alloc (.cells #[.int .i64 r, va] 24)).heap.size := by rw [World.size_alloc]; omega
  clear ha hza hst hlx hsx
  subst hva
  have kA0_a : (w.alloc (.cells #[.int .i64 r, .slice ao xs.length cap] 24)).cell? ⟨w.heap.size, 0, none⟩ = some _ := cell_of_row (w.alloc (.cells #[.int .i64 r, .slice ao xs.length cap] 24)) (w.heap.size) 0 _ _ (0, 0) hxA_a
  have kA1_a : (w.alloc (.cells #[.int .i64 r, .slice ao xs.length cap] 24)).cell? ⟨w.heap.size, 1, none⟩ = some _ := cell_of_row (w.alloc (.cells #[.int .i64 r, .slice ao xs.length cap] 24)) (w.heap.size) 1 _ _ (0, 0) hxA_a
  try simp only [List.getElem?_toArray, List.getElem?_cons_zero, List.getElem?_cons_succ] at kA0_a kA1_a
  go_enter Try.func6, Try.ntmps6
  go_wp2_with fail
  refine (hsz).mono ?_
  rintro e w1 ⟨rfl, hb1⟩
  have hB_1 := hB_a.trans (hb1.mono hB_a.size)
  have hs1 := hb1.size
  try rw [World.size_alloc] at hs1
  have hxA_1 := (hb1.block (w.heap.size) hlA_a).trans hxA_a
  have hlA_1 := Nat.lt_of_lt_of_le hlA_a hb1.size
  clear hB_a hxA_a hlA_a kA0_a kA1_a hb1
  have kA0_1 : (w1).cell? ⟨w.heap.size, 0, none⟩ = some _ := cell_of_row (w1) (w.heap.size) 0 _ _ (0, 0) hxA_1
  have kA1_1 : (w1).cell? ⟨w.heap.size, 1, none⟩ = some _ := cell_of_row (w1) (w.heap.size) 1 _ _ (0, 0) hxA_1
  try simp only [List.getElem?_toArray, List.getElem?_cons_zero, List.getElem?_cons_succ] at kA0_1 kA1_1
  clear hsz
  go_wp2_with fail
  refine (HTO (w1) hB_1).mono ?_
  rintro e w2 ⟨v1, rfl, ho1_2, hb2⟩
  have hB_2 := hB_1.trans (hb2.mono hB_1.size)
  have hs2 := hb2.size
  try rw [World.size_alloc] at hs2
  have hxA_2 := (hb2.block (w.heap.size) hlA_1).trans hxA_1
  have hlA_2 := Nat.lt_of_lt_of_le hlA_1 hb2.size
  clear hB_1 hxA_1 hlA_1 kA0_1 kA1_1 hb2
  obtain ⟨ao1, ac1, hv1⟩ := ownG_shape ho1_2
  subst hv1
  have hv1 := ho1_2.lt
  try simp only [World.size_alloc] at hv1
  have kA0_2 : (w2).cell? ⟨w.heap.size, 0, none⟩ = some _ := cell_of_row (w2) (w.heap.size) 0 _ _ (0, 0) hxA_2
  have kA1_2 : (w2).cell? ⟨w.heap.size, 1, none⟩ = some _ := cell_of_row (w2) (w.heap.size) 1 _ _ (0, 0) hxA_2
  try simp only [List.getElem?_toArray, List.getElem?_cons_zero, List.getElem?_cons_succ] at kA0_2 kA1_2
  go_wp2_with fail
  refine (HSP (w2) _ (rdG_owns itW ho1_2)).mono ?_
  rintro e w3 ⟨vW, rfl, hoW_3, hb3⟩
  have hB_3 := hB_2.trans (hb3.mono hB_2.size)
  have hs3 := hb3.size
  try rw [World.size_alloc] at hs3
  have ho1_3 := owns_below ho1_2 hb3
  have hxA_3 := (hb3.block (w.heap.size) hlA_2).trans hxA_2
  have hlA_3 := Nat.lt_of_lt_of_le hlA_2 hb3.size
  clear hB_2 ho1_2 hxA_2 hlA_2 kA0_2 kA1_2 hb3
  obtain ⟨aoW, acW, hvW⟩ := ownG_shape hoW_3
  subst hvW
  have hvW := hoW_3.lt
  try simp only [World.size_alloc] at hvW
  have kA0_3 : (w3).cell? ⟨w.heap.size, 0, none⟩ = some _ := cell_of_row (w3) (w.heap.size) 0 _ _ (0, 0) hxA_3
  have kA1_3 : (w3).cell? ⟨w.heap.size, 1, none⟩ = some _ := cell_of_row (w3) (w.heap.size) 1 _ _ (0, 0) hxA_3
  try simp only [List.getElem?_toArray, List.getElem?_cons_zero, List.getElem?_cons_succ] at kA0_3 kA1_3
  clear ho1_3
  have hB_3a : Below w.heap.size w (w3.alloc (.cells #[.int .i64 R1, .slice aoW R2.length acW] 29)) := hB_3.alloc hB_3.size _
  have hoW_3a := hoW_3.alloc (.cells #[.int .i64 R1, .slice aoW R2.length acW] 29)
  have hxA_3a : (w3.alloc (.cells #[.int .i64 R1, .slice aoW R2.length acW] 29)).heap[w.heap.size]? = _ := (heap_alloc_old w3 _ hlA_3).trans hxA_3
  have hlA_3a : w.heap.size < (w3.alloc (.cells #[.int .i64 R1, .slice aoW R2.length acW] 29)).heap.size := by rw [World.size_alloc]; omega
  clear hB_3 hoW_3 hxA_3 hlA_3 kA0_3 kA1_3
  have hxW_3a : (w3.alloc (.cells #[.int .i64 R1, .slice aoW R2.length acW] 29)).heap[w3.heap.size]? = _ := heap_alloc_new w3 _
  have hlW_3a : w3.heap.size < (w3.alloc (.cells #[.int .i64 R1, .slice aoW R2.length acW] 29)).heap.size := by rw [World.size_alloc]; omega
  have kA0_3a : (w3.alloc (.cells #[.int .i64 R1, .slice aoW R2.length acW] 29)).cell? ⟨w.heap.size, 0, none⟩ = some _ := cell_of_row (w3.alloc (.cells #[.int .i64 R1, .slice aoW R2.length acW] 29)) (w.heap.size) 0 _ _ (0, 0) hxA_3a
  have kA1_3a : (w3.alloc (.cells #[.int .i64 R1, .slice aoW R2.length acW] 29)).cell? ⟨w.heap.size, 1, none⟩ = some _ := cell_of_row (w3.alloc (.cells #[.int .i64 R1, .slice aoW R2.length acW] 29)) (w.heap.size) 1 _ _ (0, 0) hxA_3a
  have kW0_3a : (w3.alloc (.cells #[.int .i64 R1, .slice aoW R2.length acW] 29)).cell? ⟨w3.heap.size, 0, none⟩ = some _ := cell_of_row (w3.alloc (.cells #[.int .i64 R1, .slice aoW R2.length acW] 29)) (w3.heap.size) 0 _ _ (0, 0) hxW_3a
  have kW1_3a : (w3.alloc (.cells #[.int .i64 R1, .slice aoW R2.length acW] 29)).cell? ⟨w3.heap.size, 1, none⟩ = some _ := cell_of_row (w3.alloc (.cells #[.int .i64 R1, .slice aoW R2.length acW] 29)) (w3.heap.size) 1 _ _ (0, 0) hxW_3a
  try simp only [List.getElem?_toArray, List.getElem?_cons_zero, List.getElem?_cons_succ] at kA0_3a kA1_3a kW0_3a kW1_3a
  go_wp2_with fail
  refine (HTO (w3.alloc (.cells #[.int .i64 R1, .slice aoW R2.length acW] 29)) hB_3a).mono ?_
  rintro e w4 ⟨vX, rfl, hoX_4, hb4⟩
  have hB_4 := hB_3a.trans (hb4.mono hB_3a.size)
  have hs4 := hb4.size
  try rw [World.size_alloc] at hs4
  have hoW_4 := owns_below hoW_3a hb4
  have hxA_4 := (hb4.block (w.heap.size) hlA_3a).trans hxA_3a
  have hlA_4 := Nat.lt_of_lt_of_le hlA_3a hb4.size
  have hxW_4 := (hb4.block (w3.heap.size) hlW_3a).trans hxW_3a
  have hlW_4 := Nat.lt_of_lt_of_le hlW_3a hb4.size
  clear hB_3a hoW_3a hxA_3a hlA_3a kA0_3a kA1_3a hxW_3a hlW_3a kW0_3a kW1_3a hb4
  obtain ⟨aoX, acX, hvX⟩ := ownG_shape hoX_4
  subst hvX
  have hvX := hoX_4.lt
  try simp only [World.size_alloc] at hvX
  have kA0_4 : (w4).cell? ⟨w.heap.size, 0, none⟩ = some _ := cell_of_row (w4) (w.heap.size) 0 _ _ (0, 0) hxA_4
  have kA1_4 : (w4).cell? ⟨w.heap.size, 1, none⟩ = some _ := cell_of_row (w4) (w.heap.size) 1 _ _ (0, 0) hxA_4
  have kW0_4 : (w4).cell? ⟨w3.heap.size, 0, none⟩ = some _ := cell_of_row (w4) (w3.heap.size) 0 _ _ (0, 0) hxW_4
  have kW1_4 : (w4).cell? ⟨w3.heap.size, 1, none⟩ = some _ := cell_of_row (w4) (w3.heap.size) 1 _ _ (0, 0) hxW_4
  try simp only [List.getElem?_toArray, List.getElem?_cons_zero, List.getElem?_cons_succ] at kA0_4 kA1_4 kW0_4 kW1_4
  have hB_4a : Below w.heap.size w (w4.alloc (.cells #[.int .i64 r, .slice aoX xs.length acX] 29)) := hB_4.alloc hB_4.size _
  have hoW_4a := hoW_4.alloc (.cells #[.int .i64 r, .slice aoX xs.length acX] 29)
  have hoX_4a := hoX_4.alloc (.cells #[.int .i64 r, .slice aoX xs.length acX] 29)
  have hxA_4a : (w4.alloc (.cells #[.int .i64 r, .slice aoX xs.length acX] 29)).heap[w.heap.size]? = _ := (heap_alloc_old w4 _ hlA_4).trans hxA_4
  have hlA_4a : w.heap.size < (w4.alloc (.cells #[.int .i64 r, .slice aoX xs.length acX] 29)).heap.size := by rw [World.size_alloc]; omega
  have hxW_4a : (w4.alloc (.cells #[.int .i64 r, .slice aoX xs.length acX] 29)).heap[w3.heap.size]? = _ := (heap_alloc_old w4 _ hlW_4).trans hxW_4
  have hlW_4a : w3.heap.size < (w4.alloc (.cells #[.int .i64 r, .slice aoX xs.length acX] 29)).heap.size := by rw [World.size_alloc]; omega
  clear hB_4 hoW_4 hoX_4 hxA_4 hlA_4 kA0_4 kA1_4 hxW_4 hlW_4 kW0_4 kW1_4
  have hxX_4a : (w4.alloc (.cells #[.int .i64 r, .slice aoX xs.length acX] 29)).heap[w4.heap.size]? = _ := heap_alloc_new w4 _
  have hlX_4a : w4.heap.size < (w4.alloc (.cells #[.int .i64 r, .slice aoX xs.length acX] 29)).heap.size := by rw [World.size_alloc]; omega
  have kA0_4a : (w4.alloc (.cells #[.int .i64 r, .slice aoX xs.length acX] 29)).cell? ⟨w.heap.size, 0, none⟩ = some _ := cell_of_row (w4.alloc (.cells #[.int .i64 r, .slice aoX xs.length acX] 29)) (w.heap.size) 0 _ _ (0, 0) hxA_4a
  have kA1_4a : (w4.alloc (.cells #[.int .i64 r, .slice aoX xs.length acX] 29)).cell? ⟨w.heap.size, 1, none⟩ = some _ := cell_of_row (w4.alloc (.cells #[.int .i64 r, .slice aoX xs.length acX] 29)) (w.heap.size) 1 _ _ (0, 0) hxA_4a
  have kW0_4a : (w4.alloc (.cells #[.int .i64 r, .slice aoX xs.length acX] 29)).cell? ⟨w3.heap.size, 0, none⟩ = some _ := cell_of_row (w4.alloc (.cells #[.int .i64 r, .slice aoX xs.length acX] 29)) (w3.heap.size) 0 _ _ (0, 0) hxW_4a
  have kW1_4a : (w4.alloc (.cells #[.int .i64 r, .slice aoX xs.length acX] 29)).cell? ⟨w3.heap.size, 1, none⟩ = some _ := cell_of_row (w4.alloc (.cells #[.int .i64 r, .slice aoX xs.length acX] 29)) (w3.heap.size) 1 _ _ (0, 0) hxW_4a
  have kX0_4a : (w4.alloc (.cells #[.int .i64 r, .slice aoX xs.length acX] 29)).cell? ⟨w4.heap.size, 0, none⟩ = some _ := cell_of_row (w4.alloc (.cells #[.int .i64 r, .slice aoX xs.length acX] 29)) (w4.heap.size) 0 _ _ (0, 0) hxX_4a
  have kX1_4a : (w4.alloc (.cells #[.int .i64 r, .slice aoX xs.length acX] 29)).cell? ⟨w4.heap.size, 1, none⟩ = some _ := cell_of_row (w4.alloc (.cells #[.int .i64 r, .slice aoX xs.length acX] 29)) (w4.heap.size) 1 _ _ (0, 0) hxX_4a
  try simp only [List.getElem?_toArray, List.getElem?_cons_zero, List.getElem?_cons_succ] at kA0_4a kA1_4a kW0_4a kW1_4a kX0_4a kX1_4a
  go_wp2_with fail
  refine (HIM (w4.alloc (.cells #[.int .i64 r, .slice aoX xs.length acX] 29)) _ (rdG_owns itW hoX_4a)).mono ?_
  rintro e w5 ⟨vG, rfl, hoG_5, hb5⟩
  have hB_5 := hB_4a.trans (hb5.mono hB_4a.size)
  have hs5 := hb5.size
  try rw [World.size_alloc] at hs5
  have hoW_5 := owns_below hoW_4a hb5
  have hoX_5 := owns_below hoX_4a hb5
  have hxA_5 := (hb5.block (w.heap.size) hlA_4a).trans hxA_4a
  have hlA_5 := Nat.lt_of_lt_of_le hlA_4a hb5.size
  have hxW_5 := (hb5.block (w3.heap.size) hlW_4a).trans hxW_4a
  have hlW_5 := Nat.lt_of_lt_of_le hlW_4a hb5.size
  have hxX_5 := (hb5.block (w4.heap.size) hlX_4a).trans hxX_4a
  have hlX_5 := Nat.lt_of_lt_of_le hlX_4a hb5.size
  clear hB_4a hoW_4a hoX_4a hxA_4a hlA_4a kA0_4a kA1_4a hxW_4a hlW_4a kW0_4a kW1_4a hxX_4a hlX_4a kX0_4a kX1_4a hb5
  obtain ⟨aoG, acG, hvG⟩ := ownG_shape hoG_5
  subst hvG
  have hvG := hoG_5.lt
  try simp only [World.size_alloc] at hvG
  have kA0_5 : (w5).cell? ⟨w.heap.size, 0, none⟩ = some _ := cell_of_row (w5) (w.heap.size) 0 _ _ (0, 0) hxA_5
  have kA1_5 : (w5).cell? ⟨w.heap.size, 1, none⟩ = some _ := cell_of_row (w5) (w.heap.size) 1 _ _ (0, 0) hxA_5
  have kW0_5 : (w5).cell? ⟨w3.heap.size, 0, none⟩ = some _ := cell_of_row (w5) (w3.heap.size) 0 _ _ (0, 0) hxW_5
  have kW1_5 : (w5).cell? ⟨w3.heap.size, 1, none⟩ = some _ := cell_of_row (w5) (w3.heap.size) 1 _ _ (0, 0) hxW_5
  have kX0_5 : (w5).cell? ⟨w4.heap.size, 0, none⟩ = some _ := cell_of_row (w5) (w4.heap.size) 0 _ _ (0, 0) hxX_5
  have kX1_5 : (w5).cell? ⟨w4.heap.size, 1, none⟩ = some _ := cell_of_row (w5) (w4.heap.size) 1 _ _ (0, 0) hxX_5
  try simp only [List.getElem?_toArray, List.getElem?_cons_zero, List.getElem?_cons_succ] at kA0_5 kA1_5 kW0_5 kW1_5 kX0_5 kX1_5
  have hB_5a : Below w.heap.size w (w5.alloc (.cells #[.int .i64 R1, .slice aoG R2.length acG] 29)) := hB_5.alloc hB_5.size _
  have hoW_5a := hoW_5.alloc (.cells #[.int .i64 R1, .slice aoG R2.length acG] 29)
  have hoX_5a := hoX_5.alloc (.cells #[.int .i64 R1, .slice aoG R2.length acG] 29)
  have hoG_5a := hoG_5.alloc (.cells #[.int .i64 R1, .slice aoG R2.length acG] 29)
  have hxA_5a : (w5.alloc (.cells #[.int .i64 R1, .slice aoG R2.length acG] 29)).heap[w.heap.size]? = _ := (heap_alloc_old w5 _ hlA_5).trans hxA_5
  have hlA_5a : w.heap.size < (w5.alloc (.cells #[.int .i64 R1, .slice aoG R2.length acG] 29)).heap.size := by rw [World.size_alloc]; omega
  have hxW_5a : (w5.alloc (.cells #[.int .i64 R1, .slice aoG R2.length acG] 29)).heap[w3.heap.size]? = _ := (heap_alloc_old w5 _ hlW_5).trans hxW_5
  have hlW_5a : w3.heap.size < (w5.alloc (.cells #[.int .i64 R1, .slice aoG R2.length acG] 29)).heap.size := by rw [World.size_alloc]; omega
  have hxX_5a : (w5.alloc (.cells #[.int .i64 R1, .slice aoG R2.length acG] 29)).heap[w4.heap.size]? = _ := (heap_alloc_old w5 _ hlX_5).trans hxX_5
  have hlX_5a : w4.heap.size < (w5.alloc (.cells #[.int .i64 R1, .slice aoG R2.length acG] 29)).heap.size := by rw [World.size_alloc]; omega
  clear hB_5 hoW_5 hoX_5 hoG_5 hxA_5 hlA_5 kA0_5 kA1_5 hxW_5 hlW_5 kW0_5 kW1_5 hxX_5 hlX_5 kX0_5 kX1_5
  have hxG_5a : (w5.alloc (.cells #[.int .i64 R1, .slice aoG R2.length acG] 29)).heap[w5.heap.size]? = _ := heap_alloc_new w5 _
  have hlG_5a : w5.heap.size < (w5.alloc (.cells #[.int .i64 R1, .slice aoG R2.length acG] 29)).heap.size := by rw [World.size_alloc]; omega
  have kA0_5a : (w5.alloc (.cells #[.int .i64 R1, .slice aoG R2.length acG] 29)).cell? ⟨w.heap.size, 0, none⟩ = some _ := cell_of_row (w5.alloc (.cells #[.int .i64 R1, .slice aoG R2.length acG] 29)) (w.heap.size) 0 _ _ (0, 0) hxA_5a
  have kA1_5a : (w5.alloc (.cells #[.int .i64 R1, .slice aoG R2.length acG] 29)).cell? ⟨w.heap.size, 1, none⟩ = some _ := cell_of_row (w5.alloc (.cells #[.int .i64 R1, .slice aoG R2.length acG] 29)) (w.heap.size) 1 _ _ (0, 0) hxA_5a
  have kW0_5a : (w5.alloc (.cells #[.int .i64 R1, .slice aoG R2.length acG] 29)).cell? ⟨w3.heap.size, 0, none⟩ = some _ := cell_of_row (w5.alloc (.cells #[.int .i64 R1, .slice aoG R2.length acG] 29)) (w3.heap.size) 0 _ _ (0, 0) hxW_5a
  have kW1_5a : (w5.alloc (.cells #[.int .i64 R1, .slice aoG R2.length acG] 29)).cell? ⟨w3.heap.size, 1, none⟩ = some _ := cell_of_row (w5.alloc (.cells #[.int .i64 R1, .slice aoG R2.length acG] 29)) (w3.heap.size) 1 _ _ (0, 0) hxW_5a
  have kX0_5a : (w5.alloc (.cells #[.int .i64 R1, .slice aoG R2.length acG] 29)).cell? ⟨w4.heap.size, 0, none⟩ = some _ := cell_of_row (w5.alloc (.cells #[.int .i64 R1, .slice aoG R2.length acG] 29)) (w4.heap.size) 0 _ _ (0, 0) hxX_5a
  have kX1_5a : (w5.alloc (.cells #[.int .i64 R1, .slice aoG R2.length acG] 29)).cell? ⟨w4.heap.size, 1, none⟩ = some _ := cell_of_row (w5.alloc (.cells #[.int .i64 R1, .slice aoG R2.length acG] 29)) (w4.heap.size) 1 _ _ (0, 0) hxX_5a
  have kG0_5a : (w5.alloc (.cells #[.int .i64 R1, .slice aoG R2.length acG] 29)).cell? ⟨w5.heap.size, 0, none⟩ = some _ := cell_of_row (w5.alloc (.cells #[.int .i64 R1, .slice aoG R2.length acG] 29)) (w5.heap.size) 0 _ _ (0, 0) hxG_5a
  have kG1_5a : (w5.alloc (.cells #[.int .i64 R1, .slice aoG R2.length acG] 29)).cell? ⟨w5.heap.size, 1, none⟩ = some _ := cell_of_row (w5.alloc (.cells #[.int .i64 R1, .slice aoG R2.length acG] 29)) (w5.heap.size) 1 _ _ (0, 0) hxG_5a
  try simp only [List.getElem?_toArray, List.getElem?_cons_zero, List.getElem?_cons_succ] at kA0_5a kA1_5a kW0_5a kW1_5a kX0_5a kX1_5a kG0_5a kG1_5a
  go_wp2_with fail
  refine (eqShelf_same R1 (.slice aoG R2.length acG) (.slice aoW R2.length acW) R2 (w5.alloc (.cells #[.int .i64 R1, .slice aoG R2.length acG] 29)) (rdG_owns itW hoG_5a) (rdG_owns itW hoW_5a) hlR).mono ?_
  rintro e w6 ⟨rfl, hb6⟩
  have hB_6 := hB_5a.trans (hb6.mono hB_5a.size)
  have hs6 := hb6.size
  try rw [World.size_alloc] at hs6
  have hoW_6 := owns_below hoW_5a hb6
  have hoX_6 := owns_below hoX_5a hb6
  have hoG_6 := owns_below hoG_5a hb6
  have hxA_6 := (hb6.block (w.heap.size) hlA_5a).trans hxA_5a
  have hlA_6 := Nat.lt_of_lt_of_le hlA_5a hb6.size
  have hxW_6 := (hb6.block (w3.heap.size) hlW_5a).trans hxW_5a
  have hlW_6 := Nat.lt_of_lt_of_le hlW_5a hb6.size
  have hxX_6 := (hb6.block (w4.heap.size) hlX_5a).trans hxX_5a
  have hlX_6 := Nat.lt_of_lt_of_le hlX_5a hb6.size
  have hxG_6 := (hb6.block (w5.heap.size) hlG_5a).trans hxG_5a
  have hlG_6 := Nat.lt_of_lt_of_le hlG_5a hb6.size
  clear hB_5a hoW_5a hoX_5a hoG_5a hxA_5a hlA_5a kA0_5a kA1_5a hxW_5a hlW_5a kW0_5a kW1_5a hxX_5a hlX_5a kX0_5a kX1_5a hxG_5a hlG_5a kG0_5a kG1_5a hb6
  have kA0_6 : (w6).cell? ⟨w.heap.size, 0, none⟩ = some _ := cell_of_row (w6) (w.heap.size) 0 _ _ (0, 0) hxA_6
  have kA1_6 : (w6).cell? ⟨w.heap.size, 1, none⟩ = some _ := cell_of_row (w6) (w.heap.size) 1 _ _ (0, 0) hxA_6
  have kW0_6 : (w6).cell? ⟨w3.heap.size, 0, none⟩ = some _ := cell_of_row (w6) (w3.heap.size) 0 _ _ (0, 0) hxW_6
  have kW1_6 : (w6).cell? ⟨w3.heap.size, 1, none⟩ = some _ := cell_of_row (w6) (w3.heap.size) 1 _ _ (0, 0) hxW_6
  have kX0_6 : (w6).cell? ⟨w4.heap.size, 0, none⟩ = some _ := cell_of_row (w6) (w4.heap.size) 0 _ _ (0, 0) hxX_6
  have kX1_6 : (w6).cell? ⟨w4.heap.size, 1, none⟩ = some _ := cell_of_row (w6) (w4.heap.size) 1 _ _ (0, 0) hxX_6
  have kG0_6 : (w6).cell? ⟨w5.heap.size, 0, none⟩ = some _ := cell_of_row (w6) (w5.heap.size) 0 _ _ (0, 0) hxG_6
  have kG1_6 : (w6).cell? ⟨w5.heap.size, 1, none⟩ = some _ := cell_of_row (w6) (w5.heap.size) 1 _ _ (0, 0) hxG_6
  try simp only [List.getElem?_toArray, List.getElem?_cons_zero, List.getElem?_cons_succ] at kA0_6 kA1_6 kW0_6 kW1_6 kX0_6 kX1_6 kG0_6 kG1_6
  have HS_6 : Hid (∀ W : World, Below (w6).heap.size (w6) W → (W.cell? ⟨w.heap.size, 0, none⟩ = some (.int .i64 r) ∧ W.cell? ⟨w.heap.size, 1, none⟩ = some (.slice ao xs.length cap)) ∧ (W.cell? ⟨w4.heap.size, 0, none⟩ = some (.int .i64 r) ∧ W.cell? ⟨w4.heap.size, 1, none⟩ = some (.slice aoX xs.length acX))) := fun W hW => ⟨⟨(hW.cell (p := ⟨w.heap.size, 0, none⟩) hlA_6).trans kA0_6, (hW.cell (p := ⟨w.heap.size, 1, none⟩) hlA_6).trans kA1_6⟩, ⟨(hW.cell (p := ⟨w4.heap.size, 0, none⟩) hlX_6).trans kX0_6, (hW.cell (p := ⟨w4.heap.size, 1, none⟩) hlX_6).trans kX1_6⟩⟩
  have hbd : Below (w6).heap.size (w6) (w6).drew := (Below.refl _ _).drew
  go_wp2_with fail
  go_region_held (fun W : World => (W.cell? ⟨w.heap.size, 0, none⟩ = some (.int .i64 r) ∧ W.cell? ⟨w.heap.size, 1, none⟩ = some (.slice ao xs.length cap)) ∧ (W.cell? ⟨w4.heap.size, 0, none⟩ = some (.int .i64 r) ∧ W.cell? ⟨w4.heap.size, 1, none⟩ = some (.slice aoX xs.length acX))) (first | exact HS_6.out _ hbd | exact HS_6.out _ hbq | exact HS_6.out _ hbp | go_keep) (first
    | (go_at_call 11; refine (eqShelf_same r (.slice aoX xs.length acX) v3 xs w7 (rdG_owns itW (owns_below hoX_6 hbp)) (rdG_owns itW ho3) hl).mono ?_; rintro e w8 ⟨rfl, hb3⟩; have hbq := hbp.trans (hb3.mono hbp.size))
    | (go_at_call 9; refine (HTO (w6).drew hB_6.drew).mono ?_; rintro e w7 ⟨v3, rfl, ho3, hb3a⟩; have hbp : Below (w6).heap.size (w6) w7 := hbd.trans (hb3a.mono (Nat.le_refl _))))
  have hb8 := hbq
  have hB_8 := hB_6.trans (hb8.mono hB_6.size)
  have hs8 := hb8.size
  try rw [World.size_alloc] at hs8
  have hoW_8 := owns_below hoW_6 hb8
  have hoX_8 := owns_below hoX_6 hb8
  have hoG_8 := owns_below hoG_6 hb8
  have hxA_8 := (hb8.block (w.heap.size) hlA_6).trans hxA_6
  have hlA_8 := Nat.lt_of_lt_of_le hlA_6 hb8.size
  have hxW_8 := (hb8.block (w3.heap.size) hlW_6).trans hxW_6
  have hlW_8 := Nat.lt_of_lt_of_le hlW_6 hb8.size
  have hxX_8 := (hb8.block (w4.heap.size) hlX_6).trans hxX_6
  have hlX_8 := Nat.lt_of_lt_of_le hlX_6 hb8.size
  have hxG_8 := (hb8.block (w5.heap.size) hlG_6).trans hxG_6
  have hlG_8 := Nat.lt_of_lt_of_le hlG_6 hb8.size
  clear hB_6 hoW_6 hoX_6 hoG_6 hxA_6 hlA_6 kA0_6 kA1_6 hxW_6 hlW_6 kW0_6 kW1_6 hxX_6 hlX_6 kX0_6 kX1_6 hxG_6 hlG_6 kG0_6 kG1_6 hb8 hbq hbp hb3 hb3a ho3 hbd HS_6
  have kA0_8 : (w8).cell? ⟨w.heap.size, 0, none⟩ = some _ := cell_of_row (w8) (w.heap.size) 0 _ _ (0, 0) hxA_8
  have kA1_8 : (w8).cell? ⟨w.heap.size, 1, none⟩ = some _ := cell_of_row (w8) (w.heap.size) 1 _ _ (0, 0) hxA_8
  have kW0_8 : (w8).cell? ⟨w3.heap.size, 0, none⟩ = some _ := cell_of_row (w8) (w3.heap.size) 0 _ _ (0, 0) hxW_8
  have kW1_8 : (w8).cell? ⟨w3.heap.size, 1, none⟩ = some _ := cell_of_row (w8) (w3.heap.size) 1 _ _ (0, 0) hxW_8
  have kX0_8 : (w8).cell? ⟨w4.heap.size, 0, none⟩ = some _ := cell_of_row (w8) (w4.heap.size) 0 _ _ (0, 0) hxX_8
  have kX1_8 : (w8).cell? ⟨w4.heap.size, 1, none⟩ = some _ := cell_of_row (w8) (w4.heap.size) 1 _ _ (0, 0) hxX_8
  have kG0_8 : (w8).cell? ⟨w5.heap.size, 0, none⟩ = some _ := cell_of_row (w8) (w5.heap.size) 0 _ _ (0, 0) hxG_8
  have kG1_8 : (w8).cell? ⟨w5.heap.size, 1, none⟩ = some _ := cell_of_row (w8) (w5.heap.size) 1 _ _ (0, 0) hxG_8
  try simp only [List.getElem?_toArray, List.getElem?_cons_zero, List.getElem?_cons_succ] at kA0_8 kA1_8 kW0_8 kW1_8 kX0_8 kX1_8 kG0_8 kG1_8
  go_wp2_with fail
  refine (HMX (w8) _ (.slice aoX xs.length acX) hoX_8).mono ?_
  rintro e w9 ⟨rfl, hg9⟩
  have hs9 := hg9.size
  have hB_9 : Below w.heap.size w w9 := hB_8.grown hg9 hB_8.size (fun q hq => by have := (hvX q hq).1; omega)
  have hoW_9 := owns_grown hoW_8 hg9 (fun q hq h => by have h1 := hvX q hq; have h2 := hvW q h; omega)
  have hoG_9 := owns_grown hoG_8 hg9 (fun q hq h => by have h1 := hvX q hq; have h2 := hvG q h; omega)
  have hxA_9 := (hg9.block (w.heap.size) hlA_8 (fun h => by have h1 := hvX _ h.symm; omega)).trans hxA_8
  have hlA_9 := Nat.lt_of_lt_of_le hlA_8 hg9.size
  have hxW_9 := (hg9.block (w3.heap.size) hlW_8 (fun h => by have h1 := hvX _ h.symm; omega)).trans hxW_8
  have hlW_9 := Nat.lt_of_lt_of_le hlW_8 hg9.size
  have hxX_9 := (hg9.block (w4.heap.size) hlX_8 (fun h => by have h1 := hvX _ h.symm; omega)).trans hxX_8
  have hlX_9 := Nat.lt_of_lt_of_le hlX_8 hg9.size
  have hxG_9 := (hg9.block (w5.heap.size) hlG_8 (fun h => by have h1 := hvX _ h.symm; omega)).trans hxG_8
  have hlG_9 := Nat.lt_of_lt_of_le hlG_8 hg9.size
  clear hB_8 hoW_8 hoX_8 hoG_8 hxA_8 hlA_8 kA0_8 kA1_8 hxW_8 hlW_8 kW0_8 kW1_8 hxX_8 hlX_8 kX0_8 kX1_8 hxG_8 hlG_8 kG0_8 kG1_8 hg9
  have kA0_9 : (w9).cell? ⟨w.heap.size, 0, none⟩ = some _ := cell_of_row (w9) (w.heap.size) 0 _ _ (0, 0) hxA_9
  have kA1_9 : (w9).cell? ⟨w.heap.size, 1, none⟩ = some _ := cell_of_row (w9) (w.heap.size) 1 _ _ (0, 0) hxA_9
  have kW0_9 : (w9).cell? ⟨w3.heap.size, 0, none⟩ = some _ := cell_of_row (w9) (w3.heap.size) 0 _ _ (0, 0) hxW_9
  have kW1_9 : (w9).cell? ⟨w3.heap.size, 1, none⟩ = some _ := cell_of_row (w9) (w3.heap.size) 1 _ _ (0, 0) hxW_9
  have kX0_9 : (w9).cell? ⟨w4.heap.size, 0, none⟩ = some _ := cell_of_row (w9) (w4.heap.size) 0 _ _ (0, 0) hxX_9
  have kX1_9 : (w9).cell? ⟨w4.heap.size, 1, none⟩ = some _ := cell_of_row (w9) (w4.heap.size) 1 _ _ (0, 0) hxX_9
  have kG0_9 : (w9).cell? ⟨w5.heap.size, 0, none⟩ = some _ := cell_of_row (w9) (w5.heap.size) 0 _ _ (0, 0) hxG_9
  have kG1_9 : (w9).cell? ⟨w5.heap.size, 1, none⟩ = some _ := cell_of_row (w9) (w5.heap.size) 1 _ _ (0, 0) hxG_9
  try simp only [List.getElem?_toArray, List.getElem?_cons_zero, List.getElem?_cons_succ] at kA0_9 kA1_9 kW0_9 kW1_9 kX0_9 kX1_9 kG0_9 kG1_9
  go_wp2_with fail
  refine (eqShelf_same R1 (.slice aoG R2.length acG) (.slice aoW R2.length acW) R2 (w9) (rdG_owns itW hoG_9) (rdG_owns itW hoW_9) hlR).mono ?_
  rintro e w10 ⟨rfl, hb10⟩
  have hB_10 := hB_9.trans (hb10.mono hB_9.size)
  have hs10 := hb10.size
  try rw [World.size_alloc] at hs10
  have hoW_10 := owns_below hoW_9 hb10
  have hoG_10 := owns_below hoG_9 hb10
  have hxA_10 := (hb10.block (w.heap.size) hlA_9).trans hxA_9
  have hlA_10 := Nat.lt_of_lt_of_le hlA_9 hb10.size
  have hxW_10 := (hb10.block (w3.heap.size) hlW_9).trans hxW_9
  have hlW_10 := Nat.lt_of_lt_of_le hlW_9 hb10.size
  have hxX_10 := (hb10.block (w4.heap.size) hlX_9).trans hxX_9
  have hlX_10 := Nat.lt_of_lt_of_le hlX_9 hb10.size
  have hxG_10 := (hb10.block (w5.heap.size) hlG_9).trans hxG_9
  have hlG_10 := Nat.lt_of_lt_of_le hlG_9 hb10.size
  clear hB_9 hoW_9 hoG_9 hxA_9 hlA_9 kA0_9 kA1_9 hxW_9 hlW_9 kW0_9 kW1_9 hxX_9 hlX_9 kX0_9 kX1_9 hxG_9 hlG_9 kG0_9 kG1_9 hb10
  have kA0_10 : (w10).cell? ⟨w.heap.size, 0, none⟩ = some _ := cell_of_row (w10) (w.heap.size) 0 _ _ (0, 0) hxA_10
  have kA1_10 : (w10).cell? ⟨w.heap.size, 1, none⟩ = some _ := cell_of_row (w10) (w.heap.size) 1 _ _ (0, 0) hxA_10
  have kW0_10 : (w10).cell? ⟨w3.heap.size, 0, none⟩ = some _ := cell_of_row (w10) (w3.heap.size) 0 _ _ (0, 0) hxW_10
  have kW1_10 : (w10).cell? ⟨w3.heap.size, 1, none⟩ = some _ := cell_of_row (w10) (w3.heap.size) 1 _ _ (0, 0) hxW_10
  have kX0_10 : (w10).cell? ⟨w4.heap.size, 0, none⟩ = some _ := cell_of_row (w10) (w4.heap.size) 0 _ _ (0, 0) hxX_10
  have kX1_10 : (w10).cell? ⟨w4.heap.size, 1, none⟩ = some _ := cell_of_row (w10) (w4.heap.size) 1 _ _ (0, 0) hxX_10
  have kG0_10 : (w10).cell? ⟨w5.heap.size, 0, none⟩ = some _ := cell_of_row (w10) (w5.heap.size) 0 _ _ (0, 0) hxG_10
  have kG1_10 : (w10).cell? ⟨w5.heap.size, 1, none⟩ = some _ := cell_of_row (w10) (w5.heap.size) 1 _ _ (0, 0) hxG_10
  try simp only [List.getElem?_toArray, List.getElem?_cons_zero, List.getElem?_cons_succ] at kA0_10 kA1_10 kW0_10 kW1_10 kX0_10 kX1_10 kG0_10 kG1_10
  go_wp2_with fail
  refine (HMG (w10) _ (.slice aoG R2.length acG) hoG_10).mono ?_
  rintro e w11 ⟨rfl, hoM_11, hg11⟩
  have hs11 := hg11.size
  have hB_11 : Below w.heap.size w w11 := hB_10.grown hg11 hB_10.size (fun q hq => by have := (hvG q hq).1; omega)
  have hoW_11 := owns_grown hoW_10 hg11 (fun q hq h => by have h1 := hvG q hq; have h2 := hvW q h; omega)
  have hxA_11 := (hg11.block (w.heap.size) hlA_10 (fun h => by have h1 := hvG _ h.symm; omega)).trans hxA_10
  have hlA_11 := Nat.lt_of_lt_of_le hlA_10 hg11.size
  have hxW_11 := (hg11.block (w3.heap.size) hlW_10 (fun h => by have h1 := hvG _ h.symm; omega)).trans hxW_10
  have hlW_11 := Nat.lt_of_lt_of_le hlW_10 hg11.size
  have hxX_11 := (hg11.block (w4.heap.size) hlX_10 (fun h => by have h1 := hvG _ h.symm; omega)).trans hxX_10
  have hlX_11 := Nat.lt_of_lt_of_le hlX_10 hg11.size
  have hxG_11 := (hg11.block (w5.heap.size) hlG_10 (fun h => by have h1 := hvG _ h.symm; omega)).trans hxG_10
  have hlG_11 := Nat.lt_of_lt_of_le hlG_10 hg11.size
  clear hB_10 hoW_10 hoG_10 hxA_10 hlA_10 kA0_10 kA1_10 hxW_10 hlW_10 kW0_10 kW1_10 hxX_10 hlX_10 kX0_10 kX1_10 hxG_10 hlG_10 kG0_10 kG1_10 hg11
  have kA0_11 : (w11).cell? ⟨w.heap.size, 0, none⟩ = some _ := cell_of_row (w11) (w.heap.size) 0 _ _ (0, 0) hxA_11
  have kA1_11 : (w11).cell? ⟨w.heap.size, 1, none⟩ = some _ := cell_of_row (w11) (w.heap.size) 1 _ _ (0, 0) hxA_11
  have kW0_11 : (w11).cell? ⟨w3.heap.size, 0, none⟩ = some _ := cell_of_row (w11) (w3.heap.size) 0 _ _ (0, 0) hxW_11
  have kW1_11 : (w11).cell? ⟨w3.heap.size, 1, none⟩ = some _ := cell_of_row (w11) (w3.heap.size) 1 _ _ (0, 0) hxW_11
  have kX0_11 : (w11).cell? ⟨w4.heap.size, 0, none⟩ = some _ := cell_of_row (w11) (w4.heap.size) 0 _ _ (0, 0) hxX_11
  have kX1_11 : (w11).cell? ⟨w4.heap.size, 1, none⟩ = some _ := cell_of_row (w11) (w4.heap.size) 1 _ _ (0, 0) hxX_11
  have kG0_11 : (w11).cell? ⟨w5.heap.size, 0, none⟩ = some _ := cell_of_row (w11) (w5.heap.size) 0 _ _ (0, 0) hxG_11
  have kG1_11 : (w11).cell? ⟨w5.heap.size, 1, none⟩ = some _ := cell_of_row (w11) (w5.heap.size) 1 _ _ (0, 0) hxG_11
  try simp only [List.getElem?_toArray, List.getElem?_cons_zero, List.getElem?_cons_succ] at kA0_11 kA1_11 kW0_11 kW1_11 kX0_11 kX1_11 kG0_11 kG1_11
  have hvM := hoM_11.lt
  clear hvG hvX
  go_wp2_with fail
  refine (HHD (w11) _ (.slice aoG R2.length acG) hoM_11).mono ?_
  rintro e w12 ⟨rfl, hb12⟩
  have hB_12 := hB_11.trans (hb12.mono hB_11.size)
  have hs12 := hb12.size
  try rw [World.size_alloc] at hs12
  have hoW_12 := owns_below hoW_11 hb12
  have hoM_12 := owns_below hoM_11 hb12
  have hxA_12 := (hb12.block (w.heap.size) hlA_11).trans hxA_11
  have hlA_12 := Nat.lt_of_lt_of_le hlA_11 hb12.size
  have hxW_12 := (hb12.block (w3.heap.size) hlW_11).trans hxW_11
  have hlW_12 := Nat.lt_of_lt_of_le hlW_11 hb12.size
  have hxX_12 := (hb12.block (w4.heap.size) hlX_11).trans hxX_11
  have hlX_12 := Nat.lt_of_lt_of_le hlX_11 hb12.size
  have hxG_12 := (hb12.block (w5.heap.size) hlG_11).trans hxG_11
  have hlG_12 := Nat.lt_of_lt_of_le hlG_11 hb12.size
  clear hB_11 hoW_11 hoM_11 hxA_11 hlA_11 kA0_11 kA1_11 hxW_11 hlW_11 kW0_11 kW1_11 hxX_11 hlX_11 kX0_11 kX1_11 hxG_11 hlG_11 kG0_11 kG1_11 hb12
  have kA0_12 : (w12).cell? ⟨w.heap.size, 0, none⟩ = some _ := cell_of_row (w12) (w.heap.size) 0 _ _ (0, 0) hxA_12
  have kA1_12 : (w12).cell? ⟨w.heap.size, 1, none⟩ = some _ := cell_of_row (w12) (w.heap.size) 1 _ _ (0, 0) hxA_12
  have kW0_12 : (w12).cell? ⟨w3.heap.size, 0, none⟩ = some _ := cell_of_row (w12) (w3.heap.size) 0 _ _ (0, 0) hxW_12
  have kW1_12 : (w12).cell? ⟨w3.heap.size, 1, none⟩ = some _ := cell_of_row (w12) (w3.heap.size) 1 _ _ (0, 0) hxW_12
  have kX0_12 : (w12).cell? ⟨w4.heap.size, 0, none⟩ = some _ := cell_of_row (w12) (w4.heap.size) 0 _ _ (0, 0) hxX_12
  have kX1_12 : (w12).cell? ⟨w4.heap.size, 1, none⟩ = some _ := cell_of_row (w12) (w4.heap.size) 1 _ _ (0, 0) hxX_12
  have kG0_12 : (w12).cell? ⟨w5.heap.size, 0, none⟩ = some _ := cell_of_row (w12) (w5.heap.size) 0 _ _ (0, 0) hxG_12
  have kG1_12 : (w12).cell? ⟨w5.heap.size, 1, none⟩ = some _ := cell_of_row (w12) (w5.heap.size) 1 _ _ (0, 0) hxG_12
  try simp only [List.getElem?_toArray, List.getElem?_cons_zero, List.getElem?_cons_succ] at kA0_12 kA1_12 kW0_12 kW1_12 kX0_12 kX1_12 kG0_12 kG1_12
  go_wp2_with fail
  refine (HTO (w12) hB_12).mono ?_
  rintro e w13 ⟨v5, rfl, ho5_13, hb13⟩
  have hB_13 := hB_12.trans (hb13.mono hB_12.size)
  have hs13 := hb13.size
  try rw [World.size_alloc] at hs13
  have hoW_13 := owns_below hoW_12 hb13
  have hoM_13 := owns_below hoM_12 hb13
  have hxA_13 := (hb13.block (w.heap.size) hlA_12).trans hxA_12
  have hlA_13 := Nat.lt_of_lt_of_le hlA_12 hb13.size
  have hxW_13 := (hb13.block (w3.heap.size) hlW_12).trans hxW_12
  have hlW_13 := Nat.lt_of_lt_of_le hlW_12 hb13.size
  have hxX_13 := (hb13.block (w4.heap.size) hlX_12).trans hxX_12
  have hlX_13 := Nat.lt_of_lt_of_le hlX_12 hb13.size
  have hxG_13 := (hb13.block (w5.heap.size) hlG_12).trans hxG_12
  have hlG_13 := Nat.lt_of_lt_of_le hlG_12 hb13.size
  clear hB_12 hoW_12 hoM_12 hxA_12 hlA_12 kA0_12 kA1_12 hxW_12 hlW_12 kW0_12 kW1_12 hxX_12 hlX_12 kX0_12 kX1_12 hxG_12 hlG_12 kG0_12 kG1_12 hb13
  obtain ⟨ao5, ac5, hv5⟩ := ownG_shape ho5_13
  subst hv5
  have hv5 := ho5_13.lt
  try simp only [World.size_alloc] at hv5
  have kA0_13 : (w13).cell? ⟨w.heap.size, 0, none⟩ = some _ := cell_of_row (w13) (w.heap.size) 0 _ _ (0, 0) hxA_13
  have kA1_13 : (w13).cell? ⟨w.heap.size, 1, none⟩ = some _ := cell_of_row (w13) (w.heap.size) 1 _ _ (0, 0) hxA_13
  have kW0_13 : (w13).cell? ⟨w3.heap.size, 0, none⟩ = some _ := cell_of_row (w13) (w3.heap.size) 0 _ _ (0, 0) hxW_13
  have kW1_13 : (w13).cell? ⟨w3.heap.size, 1, none⟩ = some _ := cell_of_row (w13) (w3.heap.size) 1 _ _ (0, 0) hxW_13
  have kX0_13 : (w13).cell? ⟨w4.heap.size, 0, none⟩ = some _ := cell_of_row (w13) (w4.heap.size) 0 _ _ (0, 0) hxX_13
  have kX1_13 : (w13).cell? ⟨w4.heap.size, 1, none⟩ = some _ := cell_of_row (w13) (w4.heap.size) 1 _ _ (0, 0) hxX_13
  have kG0_13 : (w13).cell? ⟨w5.heap.size, 0, none⟩ = some _ := cell_of_row (w13) (w5.heap.size) 0 _ _ (0, 0) hxG_13
  have kG1_13 : (w13).cell? ⟨w5.heap.size, 1, none⟩ = some _ := cell_of_row (w13) (w5.heap.size) 1 _ _ (0, 0) hxG_13
  try simp only [List.getElem?_toArray, List.getElem?_cons_zero, List.getElem?_cons_succ] at kA0_13 kA1_13 kW0_13 kW1_13 kX0_13 kX1_13 kG0_13 kG1_13
  go_wp2_with fail
  refine (HIM (w13) _ (rdG_owns itW ho5_13)).mono ?_
  rintro e w14 ⟨vH, rfl, hoH_14, hb14⟩
  have hB_14 := hB_13.trans (hb14.mono hB_13.size)
  have hs14 := hb14.size
  try rw [World.size_alloc] at hs14
  have hoW_14 := owns_below hoW_13 hb14
  have hoM_14 := owns_below hoM_13 hb14
  have ho5_14 := owns_below ho5_13 hb14
  have hxA_14 := (hb14.block (w.heap.size) hlA_13).trans hxA_13
  have hlA_14 := Nat.lt_of_lt_of_le hlA_13 hb14.size
  have hxW_14 := (hb14.block (w3.heap.size) hlW_13).trans hxW_13
  have hlW_14 := Nat.lt_of_lt_of_le hlW_13 hb14.size
  have hxX_14 := (hb14.block (w4.heap.size) hlX_13).trans hxX_13
  have hlX_14 := Nat.lt_of_lt_of_le hlX_13 hb14.size
  have hxG_14 := (hb14.block (w5.heap.size) hlG_13).trans hxG_13
  have hlG_14 := Nat.lt_of_lt_of_le hlG_13 hb14.size
  clear hB_13 hoW_13 hoM_13 ho5_13 hxA_13 hlA_13 kA0_13 kA1_13 hxW_13 hlW_13 kW0_13 kW1_13 hxX_13 hlX_13 kX0_13 kX1_13 hxG_13 hlG_13 kG0_13 kG1_13 hb14
  obtain ⟨aoH, acH, hvH⟩ := ownG_shape hoH_14
  subst hvH
  have hvH := hoH_14.lt
  try simp only [World.size_alloc] at hvH
  have kA0_14 : (w14).cell? ⟨w.heap.size, 0, none⟩ = some _ := cell_of_row (w14) (w.heap.size) 0 _ _ (0, 0) hxA_14
  have kA1_14 : (w14).cell? ⟨w.heap.size, 1, none⟩ = some _ := cell_of_row (w14) (w.heap.size) 1 _ _ (0, 0) hxA_14
  have kW0_14 : (w14).cell? ⟨w3.heap.size, 0, none⟩ = some _ := cell_of_row (w14) (w3.heap.size) 0 _ _ (0, 0) hxW_14
  have kW1_14 : (w14).cell? ⟨w3.heap.size, 1, none⟩ = some _ := cell_of_row (w14) (w3.heap.size) 1 _ _ (0, 0) hxW_14
  have kX0_14 : (w14).cell? ⟨w4.heap.size, 0, none⟩ = some _ := cell_of_row (w14) (w4.heap.size) 0 _ _ (0, 0) hxX_14
  have kX1_14 : (w14).cell? ⟨w4.heap.size, 1, none⟩ = some _ := cell_of_row (w14) (w4.heap.size) 1 _ _ (0, 0) hxX_14
  have kG0_14 : (w14).cell? ⟨w5.heap.size, 0, none⟩ = some _ := cell_of_row (w14) (w5.heap.size) 0 _ _ (0, 0) hxG_14
  have kG1_14 : (w14).cell? ⟨w5.heap.size, 1, none⟩ = some _ := cell_of_row (w14) (w5.heap.size) 1 _ _ (0, 0) hxG_14
  try simp only [List.getElem?_toArray, List.getElem?_cons_zero, List.getElem?_cons_succ] at kA0_14 kA1_14 kW0_14 kW1_14 kX0_14 kX1_14 kG0_14 kG1_14
  clear ho5_14
  have hB_14a : Below w.heap.size w (w14.alloc (.cells #[.int .i64 R1, .slice aoH R2.length acH] 29)) := hB_14.alloc hB_14.size _
  have hoW_14a := hoW_14.alloc (.cells #[.int .i64 R1, .slice aoH R2.length acH] 29)
  have hoM_14a := hoM_14.alloc (.cells #[.int .i64 R1, .slice aoH R2.length acH] 29)
  have hoH_14a := hoH_14.alloc (.cells #[.int .i64 R1, .slice aoH R2.length acH] 29)
  have hxA_14a : (w14.alloc (.cells #[.int .i64 R1, .slice aoH R2.length acH] 29)).heap[w.heap.size]? = _ := (heap_alloc_old w14 _ hlA_14).trans hxA_14
  have hlA_14a : w.heap.size < (w14.alloc (.cells #[.int .i64 R1, .slice aoH R2.length acH] 29)).heap.size := by rw [World.size_alloc]; omega
  have hxW_14a : (w14.alloc (.cells #[.int .i64 R1, .slice aoH R2.length acH] 29)).heap[w3.heap.size]? = _ := (heap_alloc_old w14 _ hlW_14).trans hxW_14
  have hlW_14a : w3.heap.size < (w14.alloc (.cells #[.int .i64 R1, .slice aoH R2.length acH] 29)).heap.size := by rw [World.size_alloc]; omega
  have hxX_14a : (w14.alloc (.cells #[.int .i64 R1, .slice aoH R2.length acH] 29)).heap[w4.heap.size]? = _ := (heap_alloc_old w14 _ hlX_14).trans hxX_14
  have hlX_14a : w4.heap.size < (w14.alloc (.cells #[.int .i64 R1, .slice aoH R2.length acH] 29)).heap.size := by rw [World.size_alloc]; omega
  have hxG_14a : (w14.alloc (.cells #[.int .i64 R1, .slice aoH R2.length acH] 29)).heap[w5.heap.size]? = _ := (heap_alloc_old w14 _ hlG_14).trans hxG_14
  have hlG_14a : w5.heap.size < (w14.alloc (.cells #[.int .i64 R1, .slice aoH R2.length acH] 29)).heap.size := by rw [World.size_alloc]; omega
  clear hB_14 hoW_14 hoM_14 hoH_14 hxA_14 hlA_14 kA0_14 kA1_14 hxW_14 hlW_14 kW0_14 kW1_14 hxX_14 hlX_14 kX0_14 kX1_14 hxG_14 hlG_14 kG0_14 kG1_14
  have hxH_14a : (w14.alloc (.cells #[.int .i64 R1, .slice aoH R2.length acH] 29)).heap[w14.heap.size]? = _ := heap_alloc_new w14 _
  have hlH_14a : w14.heap.size < (w14.alloc (.cells #[.int .i64 R1, .slice aoH R2.length acH] 29)).heap.size := by rw [World.size_alloc]; omega
  have kA0_14a : (w14.alloc (.cells #[.int .i64 R1, .slice aoH R2.length acH] 29)).cell? ⟨w.heap.size, 0, none⟩ = some _ := cell_of_row (w14.alloc (.cells #[.int .i64 R1, .slice aoH R2.length acH] 29)) (w.heap.size) 0 _ _ (0, 0) hxA_14a
  have kA1_14a : (w14.alloc (.cells #[.int .i64 R1, .slice aoH R2.length acH] 29)).cell? ⟨w.heap.size, 1, none⟩ = some _ := cell_of_row (w14.alloc (.cells #[.int .i64 R1, .slice aoH R2.length acH] 29)) (w.heap.size) 1 _ _ (0, 0) hxA_14a
  have kW0_14a : (w14.alloc (.cells #[.int .i64 R1, .slice aoH R2.length acH] 29)).cell? ⟨w3.heap.size, 0, none⟩ = some _ := cell_of_row (w14.alloc (.cells #[.int .i64 R1, .slice aoH R2.length acH] 29)) (w3.heap.size) 0 _ _ (0, 0) hxW_14a
  have kW1_14a : (w14.alloc (.cells #[.int .i64 R1, .slice aoH R2.length acH] 29)).cell? ⟨w3.heap.size, 1, none⟩ = some _ := cell_of_row (w14.alloc (.cells #[.int .i64 R1, .slice aoH R2.length acH] 29)) (w3.heap.size) 1 _ _ (0, 0) hxW_14a
  have kX0_14a : (w14.alloc (.cells #[.int .i64 R1, .slice aoH R2.length acH] 29)).cell? ⟨w4.heap.size, 0, none⟩ = some _ := cell_of_row (w14.alloc (.cells #[.int .i64 R1, .slice aoH R2.length acH] 29)) (w4.heap.size) 0 _ _ (0, 0) hxX_14a
  have kX1_14a : (w14.alloc (.cells #[.int .i64 R1, .slice aoH R2.length acH] 29)).cell? ⟨w4.heap.size, 1, none⟩ = some _ := cell_of_row (w14.alloc (.cells #[.int .i64 R1, .slice aoH R2.length acH] 29)) (w4.heap.size) 1 _ _ (0, 0) hxX_14a
  have kG0_14a : (w14.alloc (.cells #[.int .i64 R1, .slice aoH R2.length acH] 29)).cell? ⟨w5.heap.size, 0, none⟩ = some _ := cell_of_row (w14.alloc (.cells #[.int .i64 R1, .slice aoH R2.length acH] 29)) (w5.heap.size) 0 _ _ (0, 0) hxG_14a
  have kG1_14a : (w14.alloc (.cells #[.int .i64 R1, .slice aoH R2.length acH] 29)).cell? ⟨w5.heap.size, 1, none⟩ = some _ := cell_of_row (w14.alloc (.cells #[.int .i64 R1, .slice aoH R2.length acH] 29)) (w5.heap.size) 1 _ _ (0, 0) hxG_14a
  have kH0_14a : (w14.alloc (.cells #[.int .i64 R1, .slice aoH R2.length acH] 29)).cell? ⟨w14.heap.size, 0, none⟩ = some _ := cell_of_row (w14.alloc (.cells #[.int .i64 R1, .slice aoH R2.length acH] 29)) (w14.heap.size) 0 _ _ (0, 0) hxH_14a
  have kH1_14a : (w14.alloc (.cells #[.int .i64 R1, .slice aoH R2.length acH] 29)).cell? ⟨w14.heap.size, 1, none⟩ = some _ := cell_of_row (w14.alloc (.cells #[.int .i64 R1, .slice aoH R2.length acH] 29)) (w14.heap.size) 1 _ _ (0, 0) hxH_14a
  try simp only [List.getElem?_toArray, List.getElem?_cons_zero, List.getElem?_cons_succ] at kA0_14a kA1_14a kW0_14a kW1_14a kX0_14a kX1_14a kG0_14a kG1_14a kH0_14a kH1_14a
  go_wp2_with fail
  refine (eqShelf_same R1 (.slice aoH R2.length acH) (.slice aoW R2.length acW) R2 (w14.alloc (.cells #[.int .i64 R1, .slice aoH R2.length acH] 29)) (rdG_owns itW hoH_14a) (rdG_owns itW hoW_14a) hlR).mono ?_
  rintro e w15 ⟨rfl, hb15⟩
  have hB_15 := hB_14a.trans (hb15.mono hB_14a.size)
  have hs15 := hb15.size
  try rw [World.size_alloc] at hs15
  have hoW_15 := owns_below hoW_14a hb15
  have hoM_15 := owns_below hoM_14a hb15
  have hoH_15 := owns_below hoH_14a hb15
  have hxA_15 := (hb15.block (w.heap.size) hlA_14a).trans hxA_14a
  have hlA_15 := Nat.lt_of_lt_of_le hlA_14a hb15.size
  have hxW_15 := (hb15.block (w3.heap.size) hlW_14a).trans hxW_14a
  have hlW_15 := Nat.lt_of_lt_of_le hlW_14a hb15.size
  have hxX_15 := (hb15.block (w4.heap.size) hlX_14a).trans hxX_14a
  have hlX_15 := Nat.lt_of_lt_of_le hlX_14a hb15.size
  have hxG_15 := (hb15.block (w5.heap.size) hlG_14a).trans hxG_14a
  have hlG_15 := Nat.lt_of_lt_of_le hlG_14a hb15.size
  have hxH_15 := (hb15.block (w14.heap.size) hlH_14a).trans hxH_14a
  have hlH_15 := Nat.lt_of_lt_of_le hlH_14a hb15.size
  clear hB_14a hoW_14a hoM_14a hoH_14a hxA_14a hlA_14a kA0_14a kA1_14a hxW_14a hlW_14a kW0_14a kW1_14a hxX_14a hlX_14a kX0_14a kX1_14a hxG_14a hlG_14a kG0_14a kG1_14a hxH_14a hlH_14a kH0_14a kH1_14a hb15
  have kA0_15 : (w15).cell? ⟨w.heap.size, 0, none⟩ = some _ := cell_of_row (w15) (w.heap.size) 0 _ _ (0, 0) hxA_15
  have kA1_15 : (w15).cell? ⟨w.heap.size, 1, none⟩ = some _ := cell_of_row (w15) (w.heap.size) 1 _ _ (0, 0) hxA_15
  have kW0_15 : (w15).cell? ⟨w3.heap.size, 0, none⟩ = some _ := cell_of_row (w15) (w3.heap.size) 0 _ _ (0, 0) hxW_15
  have kW1_15 : (w15).cell? ⟨w3.heap.size, 1, none⟩ = some _ := cell_of_row (w15) (w3.heap.size) 1 _ _ (0, 0) hxW_15
  have kX0_15 : (w15).cell? ⟨w4.heap.size, 0, none⟩ = some _ := cell_of_row (w15) (w4.heap.size) 0 _ _ (0, 0) hxX_15
  have kX1_15 : (w15).cell? ⟨w4.heap.size, 1, none⟩ = some _ := cell_of_row (w15) (w4.heap.size) 1 _ _ (0, 0) hxX_15
  have kG0_15 : (w15).cell? ⟨w5.heap.size, 0, none⟩ = some _ := cell_of_row (w15) (w5.heap.size) 0 _ _ (0, 0) hxG_15
  have kG1_15 : (w15).cell? ⟨w5.heap.size, 1, none⟩ = some _ := cell_of_row (w15) (w5.heap.size) 1 _ _ (0, 0) hxG_15
  have kH0_15 : (w15).cell? ⟨w14.heap.size, 0, none⟩ = some _ := cell_of_row (w15) (w14.heap.size) 0 _ _ (0, 0) hxH_15
  have kH1_15 : (w15).cell? ⟨w14.heap.size, 1, none⟩ = some _ := cell_of_row (w15) (w14.heap.size) 1 _ _ (0, 0) hxH_15
  try simp only [List.getElem?_toArray, List.getElem?_cons_zero, List.getElem?_cons_succ] at kA0_15 kA1_15 kW0_15 kW1_15 kX0_15 kX1_15 kG0_15 kG1_15 kH0_15 kH1_15
  go_wp2_with fail
  refine (HHD (w15) _ (.slice aoG R2.length acG) hoM_15).mono ?_
  rintro e w16 ⟨rfl, hb16⟩
  have hB_16 := hB_15.trans (hb16.mono hB_15.size)
  have hs16 := hb16.size
  try rw [World.size_alloc] at hs16
  have hoW_16 := owns_below hoW_15 hb16
  have hoM_16 := owns_below hoM_15 hb16
  have hoH_16 := owns_below hoH_15 hb16
  have hxA_16 := (hb16.block (w.heap.size) hlA_15).trans hxA_15
  have hlA_16 := Nat.lt_of_lt_of_le hlA_15 hb16.size
  have hxW_16 := (hb16.block (w3.heap.size) hlW_15).trans hxW_15
  have hlW_16 := Nat.lt_of_lt_of_le hlW_15 hb16.size
  have hxX_16 := (hb16.block (w4.heap.size) hlX_15).trans hxX_15
  have hlX_16 := Nat.lt_of_lt_of_le hlX_15 hb16.size
  have hxG_16 := (hb16.block (w5.heap.size) hlG_15).trans hxG_15
  have hlG_16 := Nat.lt_of_lt_of_le hlG_15 hb16.size
  have hxH_16 := (hb16.block (w14.heap.size) hlH_15).trans hxH_15
  have hlH_16 := Nat.lt_of_lt_of_le hlH_15 hb16.size
  clear hB_15 hoW_15 hoM_15 hoH_15 hxA_15 hlA_15 kA0_15 kA1_15 hxW_15 hlW_15 kW0_15 kW1_15 hxX_15 hlX_15 kX0_15 kX1_15 hxG_15 hlG_15 kG0_15 kG1_15 hxH_15 hlH_15 kH0_15 kH1_15 hb16
  have kA0_16 : (w16).cell? ⟨w.heap.size, 0, none⟩ = some _ := cell_of_row (w16) (w.heap.size) 0 _ _ (0, 0) hxA_16
  have kA1_16 : (w16).cell? ⟨w.heap.size, 1, none⟩ = some _ := cell_of_row (w16) (w.heap.size) 1 _ _ (0, 0) hxA_16
  have kW0_16 : (w16).cell? ⟨w3.heap.size, 0, none⟩ = some _ := cell_of_row (w16) (w3.heap.size) 0 _ _ (0, 0) hxW_16
  have kW1_16 : (w16).cell? ⟨w3.heap.size, 1, none⟩ = some _ := cell_of_row (w16) (w3.heap.size) 1 _ _ (0, 0) hxW_16
  have kX0_16 : (w16).cell? ⟨w4.heap.size, 0, none⟩ = some _ := cell_of_row (w16) (w4.heap.size) 0 _ _ (0, 0) hxX_16
  have kX1_16 : (w16).cell? ⟨w4.heap.size, 1, none⟩ = some _ := cell_of_row (w16) (w4.heap.size) 1 _ _ (0, 0) hxX_16
  have kG0_16 : (w16).cell? ⟨w5.heap.size, 0, none⟩ = some _ := cell_of_row (w16) (w5.heap.size) 0 _ _ (0, 0) hxG_16
  have kG1_16 : (w16).cell? ⟨w5.heap.size, 1, none⟩ = some _ := cell_of_row (w16) (w5.heap.size) 1 _ _ (0, 0) hxG_16
  have kH0_16 : (w16).cell? ⟨w14.heap.size, 0, none⟩ = some _ := cell_of_row (w16) (w14.heap.size) 0 _ _ (0, 0) hxH_16
  have kH1_16 : (w16).cell? ⟨w14.heap.size, 1, none⟩ = some _ := cell_of_row (w16) (w14.heap.size) 1 _ _ (0, 0) hxH_16
  try simp only [List.getElem?_toArray, List.getElem?_cons_zero, List.getElem?_cons_succ] at kA0_16 kA1_16 kW0_16 kW1_16 kX0_16 kX1_16 kG0_16 kG1_16 kH0_16 kH1_16
  have HB := Lib.hid hB_16
  clear hB_16 hoW_16 hoM_16 hoH_16 hxA_16 hlA_16 kA0_16 kA1_16 hxW_16 hlW_16 kW0_16 kW1_16 hxX_16 hlX_16 kX0_16 kX1_16 hxG_16 hlG_16 kG0_16 kG1_16 hxH_16 hlH_16 kH0_16 kH1_16
  go_wp2
  go_ret
  exact ⟨rfl, HB.out⟩

set_option maxRecDepth 100000 in
theorem lifted (os : Os) (started : os.Started) (H : Type) (enc : TypeId × Value → H) :
    ReturnsInHanded {} Try.checked os 6 .any (Rows.fnExactCrashedSpec.pre6 enc Try.prog Try.f6 Rows.fnExactCrashedRow.domain false) (Rows.fnExactCrashedSpec.post enc Try.prog Try.f6 false true false false) := by
  refine returnsInHanded_of_change (C := Try.checked) own started (by kernel_rfl) Try.func6
    (ChangeSpec.witness6 (enc := enc) (C := Try.checked) false ⟨#[], #[.agg #[.int .i64 0, .slice none 0 0]], []⟩ 8 (by kernel_rfl) (by kernel_rfl) (by kernel_rfl) (by kernel_rfl)) ?_
  intro W base args ds gs before hval0 hW hcnd _
  have hval : ∀ (j : Nat) t v, Try.f6.params[j]? = some t → args[j]? = some v → Value.okWide Try.prog W .any base t v := hval0
  have hW' := hW
  obtain ⟨p, q, hA0, hV, rfl, hfz, hnd⟩ := hW
  have hA : DataW.TrodAll enc Try.prog W 0 (fun _ => true) true Try.f6.params.toList args.toList ds p := hA0
  rw [Try.params6] at hA hval
  obtain ⟨v0, vs0, d0, ds0, p0, q0, hargs0, rfl, rfl, h0, r0⟩ := trodAll_cons hA
  obtain ⟨rfl, rfl, rfl⟩ := trodAll_nil r0
  obtain rfl : args = #[v0] := by cases args; simp_all
  obtain ⟨rfl, rfl⟩ := trodVars_none hV
  have k0 := h0
  have lt0 : ∀ x ∈ p0, x.block < W.heap.size := by obtain ⟨m, hm⟩ := k0; exact DataW.trod_lt m _ _ _ hm
  obtain ⟨x0, va0, zs0, rfl, hr0, hs0, hn0, wx0⟩ := arg_shelf (hval 0 24 v0 rfl rfl) h0
  clear hA0 hval0
  refine (walk x0 va0 zs0 W hr0 hs0 hn0).mono fun e W' ⟨he, bel⟩ => ?_
  subst he
  exact ⟨_, rfl, _, _, _, [], _, [], hW', trodAll_mk1 (shut_bool Try.underlying4 _), (trodAll_cons_mk (Below.trod laidOut (by kernel_rfl) (of_decide_eq_true (by kernel_rfl)) k0 bel lt0) trodAll_mk0), rfl, bel.frame _, fun h => by cases h⟩

theorem over : Rows.fnExactCrashedRow.holds Try.pinned (OpenSpec.ofChange Rows.fnExactCrashedSpec) :=
  OpenClaim.holds_of_wide 6 Try.f6 rfl rfl rfl rfl rfl rfl rfl ⟨rfl, rfl, rfl, rfl, rfl⟩ rfl rfl rfl rfl rfl (by kernel_rfl) Try.func6 (by kernel_rfl)
    (of_decide_eq_true (by kernel_rfl)) (by unfold Func.isWrapper; first | (rw [if_pos (by decide +kernel)]; kernel_rfl) | (rw [if_neg (by decide +kernel)]; exact ⟨rfl, rfl⟩))
    (fun os started H enc _ => lifted os started H enc)

theorem proved : Rows.FnExactCrashedSaid := over
end Go.Proofs.Ytncmeocjiinmfap.exCrashed
