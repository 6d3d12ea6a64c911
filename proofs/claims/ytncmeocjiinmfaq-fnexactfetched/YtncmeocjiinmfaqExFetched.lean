/- FnExactFetched: at every argument impl.Fetched answers as spec.Fetched, writes into no argument and keeps nothing of one. For every one, without a condition. (Written by lawgen13.py.) -/
import Derived.Test.YtncmeocjiinmfaqShF
import Derived.Test.YtncmeocjiinmfaqShJ
import Derived.Test.YtncmeocjiinmfaqItM
import Derived.Test.YtncmeocjiinmfaqArgItems
import Derived.Test.YtncmeocjiinmfaqShV
namespace Go.Proofs.Ytncmeocjiinmfaq.exFetched
open Go.ChangeShapes Go.WideShapes Go.ChangeAt Go.RowKit
set_option linter.unusedVariables false
set_option linter.unusedSimpArgs false
set_option maxHeartbeats 8000000 in
set_option maxRecDepth 100000 in
theorem walk (r : Int) (va : Value) (xs : List It) (n0 : Int) (w : World) (ha : RdG itf 5 w va xs) (hza : ∀ s ∈ xs, ItWf s) (hna : xs.length ≤ 9223372036854775807) (n0l : -9223372036854775808 ≤ n0) (n0h : n0 ≤ 9223372036854775807) :
    Calls Try.prog 4 #[.agg #[.int .i64 r, va], .int .i64 n0] w fun e w' => e = .returned (.bool true) ∧ Below w.heap.size w w' := by
  have hB_a : Below w.heap.size w (w.alloc (.cells #[.int .i64 r, va] 24)) := (Below.refl w.heap.size w).alloc (Nat.le_refl _) _
  have hsz := szShelf_any r va xs 1048576 (w.alloc (.cells #[.int .i64 r, va] 24)) (rdG_below ha hB_a) hna (fun p hp => (hza p hp).2.1) (by omega) (by omega)
  by_cases hbig : szS (itTx xs) 1048576 < 0
  · obtain ⟨ao, cap, rfl⟩ := rdG_shape ha
    generalize szS (itTx xs) 1048576 = z at hsz hbig
    have HB := Lib.hid hB_a
    clear ha hza hB_a
    go_enter Try.func4, Try.ntmps4
    go_wp2_with fail
    refine hsz.mono ?_
    rintro e w1 ⟨rfl, hb1⟩
    have HB1 := Lib.hid (HB.out.trans (hb1.mono HB.out.size))
    clear hsz hb1
    go_wp2
    go_ret
    exact ⟨rfl, HB1.out⟩
  obtain ⟨hlx, hsx⟩ := szS_small (xs := itTx xs) (by omega)
  have hl : xs.length ≤ 1048576 := by rw [List.length_map] at hlx; exact hlx
  have hst : ∀ p ∈ xs, p.2.1.size ≤ 1048576 := fun p hp => hsx p.2.1 (List.mem_map_of_mem hp)
  have HTO := fun (W : World) (h : Below w.heap.size w W) => toShelf_any r va xs W (rdG_below ha h) hl
  obtain ⟨z1, hz1⟩ : ∃ z, z = (fetchedT r xs n0).getD ⟨#[]⟩ := ⟨_, rfl⟩
  obtain ⟨z2, hz2⟩ : ∃ z, z = (fetchedT r xs n0).isSome := ⟨_, rfl⟩
  have HSP : ∀ (W : World) (v : Value), RdG itf 5 W v xs → Calls Try.prog 16 #[.agg #[.int .i64 r, v], .int .i64 n0] W fun e w' => e = .returned (.tuple #[.string z1, .bool z2]) ∧ Below W.heap.size W w' := fun W v h => by rw [hz1, hz2, ← getV_eq]; exact specFetched_any r v xs n0 W h hl hst
  have HIM : ∀ (W : World) (v : Value), RdG itf 5 W v xs → Calls Try.prog 17 #[.agg #[.int .i64 r, v], .int .i64 n0] W fun e w' => e = .returned (.tuple #[.string z1, .bool z2]) ∧ Below W.heap.size W w' := fun W v h => by rw [hz1, hz2, ← getV_eq]; exact implFetched_any r v xs n0 W h hl hst
  have hzz3 : (!z1.toList == z1.toList) = false := by simp
  have hzz2 : (z2 != z2) = false := by simp
  clear hz1 hz2
  have HA0 : Hid (RdG itf 5 w va xs) := ha
  generalize szS (itTx xs) 1048576 = zz at hsz hbig
  obtain ⟨ao, cap, hva⟩ := rdG_shape ha
  have hxA_a : (w.alloc (.cells #[.int .i64 r, va] 24)).heap[w.heap.size]? = _ := heap_alloc_new w _
  have hlA_a : w.heap.size < (w.alloc (.cells #[.int .i64 r, va] 24)).heap.size := by rw [World.size_alloc]; omega
  clear ha hza hst hlx hsx
  subst hva
  have kA0_a : (w.alloc (.cells #[.int .i64 r, .slice ao xs.length cap] 24)).cell? ⟨w.heap.size, 0, none⟩ = some _ := cell_of_row (w.alloc (.cells #[.int .i64 r, .slice ao xs.length cap] 24)) (w.heap.size) 0 _ _ (0, 0) hxA_a
  have kA1_a : (w.alloc (.cells #[.int .i64 r, .slice ao xs.length cap] 24)).cell? ⟨w.heap.size, 1, none⟩ = some _ := cell_of_row (w.alloc (.cells #[.int .i64 r, .slice ao xs.length cap] 24)) (w.heap.size) 1 _ _ (0, 0) hxA_a
  try simp only [List.getElem?_toArray, List.getElem?_cons_zero, List.getElem?_cons_succ] at kA0_a kA1_a
  go_enter Try.func4, Try.ntmps4
  go_wp2_with fail
  refine (hsz).mono ?_
  rintro e w1 ⟨rfl, hb1⟩
  have hB_1 := hB_a.trans (hb1.mono hB_a.size)
  have hs1 := hb1.size
  try rw [World.size_alloc] at hs1
  have hxA_1 := (hb1.block (w.heap.size) hlA_a).trans hxA_a
  have hlA_1 := Nat.lt_of_lt_of_le hlA_a hb1.size
  clear hB_a hxA_a hlA_a kA0_a kA1_a hb1
  have kA0_1 : (w1).cell? ⟨w.heap.size, 0, none⟩ = some _ := cell_of_row (w1) (w.heap.size) 0 _ _ (0, 0) hxA_1
  have kA1_1 : (w1).cell? ⟨w.heap.size, 1, none⟩ = some _ := cell_of_row (w1) (w.heap.size) 1 _ _ (0, 0) hxA_1
  try simp only [List.getElem?_toArray, List.getElem?_cons_zero, List.getElem?_cons_succ] at kA0_1 kA1_1
  clear hsz
  go_wp2_with fail
  refine (HTO (w1) hB_1).mono ?_
  rintro e w2 ⟨v1, rfl, ho1_2, hb2⟩
  have hB_2 := hB_1.trans (hb2.mono hB_1.size)
  have hs2 := hb2.size
  try rw [World.size_alloc] at hs2
  have hxA_2 := (hb2.block (w.heap.size) hlA_1).trans hxA_1
  have hlA_2 := Nat.lt_of_lt_of_le hlA_1 hb2.size
  clear hB_1 hxA_1 hlA_1 kA0_1 kA1_1 hb2
  obtain ⟨ao1, ac1, hv1⟩ := ownG_shape ho1_2
  subst hv1
  have hv1 := ho1_2.lt
  try simp only [World.size_alloc] at hv1
  have kA0_2 : (w2).cell? ⟨w.heap.size, 0, none⟩ = some _ := cell_of_row (w2) (w.heap.size) 0 _ _ (0, 0) hxA_2
  have kA1_2 : (w2).cell? ⟨w.heap.size, 1, none⟩ = some _ := cell_of_row (w2) (w.heap.size) 1 _ _ (0, 0) hxA_2
  try simp only [List.getElem?_toArray, List.getElem?_cons_zero, List.getElem?_cons_succ] at kA0_2 kA1_2
  go_wp2_with fail
  refine (HSP (w2) _ (rdG_owns itW ho1_2)).mono ?_
  rintro e w3 ⟨rfl, hb3⟩
  have hB_3 := hB_2.trans (hb3.mono hB_2.size)
  have hs3 := hb3.size
  try rw [World.size_alloc] at hs3
  have ho1_3 := owns_below ho1_2 hb3
  have hxA_3 := (hb3.block (w.heap.size) hlA_2).trans hxA_2
  have hlA_3 := Nat.lt_of_lt_of_le hlA_2 hb3.size
  clear hB_2 ho1_2 hxA_2 hlA_2 kA0_2 kA1_2 hb3
  have kA0_3 : (w3).cell? ⟨w.heap.size, 0, none⟩ = some _ := cell_of_row (w3) (w.heap.size) 0 _ _ (0, 0) hxA_3
  have kA1_3 : (w3).cell? ⟨w.heap.size, 1, none⟩ = some _ := cell_of_row (w3) (w.heap.size) 1 _ _ (0, 0) hxA_3
  try simp only [List.getElem?_toArray, List.getElem?_cons_zero, List.getElem?_cons_succ] at kA0_3 kA1_3
  clear ho1_3
  go_wp2_with fail
  refine (HTO (w3) hB_3).mono ?_
  rintro e w4 ⟨vX, rfl, hoX_4, hb4⟩
  have hB_4 := hB_3.trans (hb4.mono hB_3.size)
  have hs4 := hb4.size
  try rw [World.size_alloc] at hs4
  have hxA_4 := (hb4.block (w.heap.size) hlA_3).trans hxA_3
  have hlA_4 := Nat.lt_of_lt_of_le hlA_3 hb4.size
  clear hB_3 hxA_3 hlA_3 kA0_3 kA1_3 hb4
  obtain ⟨aoX, acX, hvX⟩ := ownG_shape hoX_4
  subst hvX
  have hvX := hoX_4.lt
  try simp only [World.size_alloc] at hvX
  have kA0_4 : (w4).cell? ⟨w.heap.size, 0, none⟩ = some _ := cell_of_row (w4) (w.heap.size) 0 _ _ (0, 0) hxA_4
  have kA1_4 : (w4).cell? ⟨w.heap.size, 1, none⟩ = some _ := cell_of_row (w4) (w.heap.size) 1 _ _ (0, 0) hxA_4
  try simp only [List.getElem?_toArray, List.getElem?_cons_zero, List.getElem?_cons_succ] at kA0_4 kA1_4
  have hB_4a : Below w.heap.size w (w4.alloc (.cells #[.int .i64 r, .slice aoX xs.length acX] 29)) := hB_4.alloc hB_4.size _
  have hoX_4a := hoX_4.alloc (.cells #[.int .i64 r, .slice aoX xs.length acX] 29)
  have hxA_4a : (w4.alloc (.cells #[.int .i64 r, .slice aoX xs.length acX] 29)).heap[w.heap.size]? = _ := (heap_alloc_old w4 _ hlA_4).trans hxA_4
  have hlA_4a : w.heap.size < (w4.alloc (.cells #[.int .i64 r, .slice aoX xs.length acX] 29)).heap.size := by rw [World.size_alloc]; omega
  clear hB_4 hoX_4 hxA_4 hlA_4 kA0_4 kA1_4
  have hxX_4a : (w4.alloc (.cells #[.int .i64 r, .slice aoX xs.length acX] 29)).heap[w4.heap.size]? = _ := heap_alloc_new w4 _
  have hlX_4a : w4.heap.size < (w4.alloc (.cells #[.int .i64 r, .slice aoX xs.length acX] 29)).heap.size := by rw [World.size_alloc]; omega
  have kA0_4a : (w4.alloc (.cells #[.int .i64 r, .slice aoX xs.length acX] 29)).cell? ⟨w.heap.size, 0, none⟩ = some _ := cell_of_row (w4.alloc (.cells #[.int .i64 r, .slice aoX xs.length acX] 29)) (w.heap.size) 0 _ _ (0, 0) hxA_4a
  have kA1_4a : (w4.alloc (.cells #[.int .i64 r, .slice aoX xs.length acX] 29)).cell? ⟨w.heap.size, 1, none⟩ = some _ := cell_of_row (w4.alloc (.cells #[.int .i64 r, .slice aoX xs.length acX] 29)) (w.heap.size) 1 _ _ (0, 0) hxA_4a
  have kX0_4a : (w4.alloc (.cells #[.int .i64 r, .slice aoX xs.length acX] 29)).cell? ⟨w4.heap.size, 0, none⟩ = some _ := cell_of_row (w4.alloc (.cells #[.int .i64 r, .slice aoX xs.length acX] 29)) (w4.heap.size) 0 _ _ (0, 0) hxX_4a
  have kX1_4a : (w4.alloc (.cells #[.int .i64 r, .slice aoX xs.length acX] 29)).cell? ⟨w4.heap.size, 1, none⟩ = some _ := cell_of_row (w4.alloc (.cells #[.int .i64 r, .slice aoX xs.length acX] 29)) (w4.heap.size) 1 _ _ (0, 0) hxX_4a
  try simp only [List.getElem?_toArray, List.getElem?_cons_zero, List.getElem?_cons_succ] at kA0_4a kA1_4a kX0_4a kX1_4a
  go_wp2_with fail
  refine (HIM (w4.alloc (.cells #[.int .i64 r, .slice aoX xs.length acX] 29)) _ (rdG_owns itW hoX_4a)).mono ?_
  rintro e w5 ⟨rfl, hb5⟩
  have hB_5 := hB_4a.trans (hb5.mono hB_4a.size)
  have hs5 := hb5.size
  try rw [World.size_alloc] at hs5
  have hoX_5 := owns_below hoX_4a hb5
  have hxA_5 := (hb5.block (w.heap.size) hlA_4a).trans hxA_4a
  have hlA_5 := Nat.lt_of_lt_of_le hlA_4a hb5.size
  have hxX_5 := (hb5.block (w4.heap.size) hlX_4a).trans hxX_4a
  have hlX_5 := Nat.lt_of_lt_of_le hlX_4a hb5.size
  clear hB_4a hoX_4a hxA_4a hlA_4a kA0_4a kA1_4a hxX_4a hlX_4a kX0_4a kX1_4a hb5
  have kA0_5 : (w5).cell? ⟨w.heap.size, 0, none⟩ = some _ := cell_of_row (w5) (w.heap.size) 0 _ _ (0, 0) hxA_5
  have kA1_5 : (w5).cell? ⟨w.heap.size, 1, none⟩ = some _ := cell_of_row (w5) (w.heap.size) 1 _ _ (0, 0) hxA_5
  have kX0_5 : (w5).cell? ⟨w4.heap.size, 0, none⟩ = some _ := cell_of_row (w5) (w4.heap.size) 0 _ _ (0, 0) hxX_5
  have kX1_5 : (w5).cell? ⟨w4.heap.size, 1, none⟩ = some _ := cell_of_row (w5) (w4.heap.size) 1 _ _ (0, 0) hxX_5
  try simp only [List.getElem?_toArray, List.getElem?_cons_zero, List.getElem?_cons_succ] at kA0_5 kA1_5 kX0_5 kX1_5
  have HS_5 : Hid (∀ W : World, Below (w5).heap.size (w5) W → (W.cell? ⟨w.heap.size, 0, none⟩ = some (.int .i64 r) ∧ W.cell? ⟨w.heap.size, 1, none⟩ = some (.slice ao xs.length cap)) ∧ (W.cell? ⟨w4.heap.size, 0, none⟩ = some (.int .i64 r) ∧ W.cell? ⟨w4.heap.size, 1, none⟩ = some (.slice aoX xs.length acX))) := fun W hW => ⟨⟨(hW.cell (p := ⟨w.heap.size, 0, none⟩) hlA_5).trans kA0_5, (hW.cell (p := ⟨w.heap.size, 1, none⟩) hlA_5).trans kA1_5⟩, ⟨(hW.cell (p := ⟨w4.heap.size, 0, none⟩) hlX_5).trans kX0_5, (hW.cell (p := ⟨w4.heap.size, 1, none⟩) hlX_5).trans kX1_5⟩⟩
  have hbd : Below (w5).heap.size (w5) (w5).drew := (Below.refl _ _).drew
  go_wp2_with fail
  go_region_held (fun W : World => (W.cell? ⟨w.heap.size, 0, none⟩ = some (.int .i64 r) ∧ W.cell? ⟨w.heap.size, 1, none⟩ = some (.slice ao xs.length cap)) ∧ (W.cell? ⟨w4.heap.size, 0, none⟩ = some (.int .i64 r) ∧ W.cell? ⟨w4.heap.size, 1, none⟩ = some (.slice aoX xs.length acX))) (first | exact HS_5.out _ hbd | exact HS_5.out _ hbq | exact HS_5.out _ hbp | go_keep) (first
    | (go_at_call 11; refine (eqShelf_same r (.slice aoX xs.length acX) v3 xs w6 (rdG_owns itW (owns_below hoX_5 hbp)) (rdG_owns itW ho3) hl).mono ?_; rintro e w7 ⟨rfl, hb3⟩; have hbq := hbp.trans (hb3.mono hbp.size))
    | (go_at_call 8; refine (HTO (w5).drew hB_5.drew).mono ?_; rintro e w6 ⟨v3, rfl, ho3, hb3a⟩; have hbp : Below (w5).heap.size (w5) w6 := hbd.trans (hb3a.mono (Nat.le_refl _))))
  have hb7 := hbq
  have hB_7 := hB_5.trans (hb7.mono hB_5.size)
  have hs7 := hb7.size
  try rw [World.size_alloc] at hs7
  have hoX_7 := owns_below hoX_5 hb7
  have hxA_7 := (hb7.block (w.heap.size) hlA_5).trans hxA_5
  have hlA_7 := Nat.lt_of_lt_of_le hlA_5 hb7.size
  have hxX_7 := (hb7.block (w4.heap.size) hlX_5).trans hxX_5
  have hlX_7 := Nat.lt_of_lt_of_le hlX_5 hb7.size
  clear hB_5 hoX_5 hxA_5 hlA_5 kA0_5 kA1_5 hxX_5 hlX_5 kX0_5 kX1_5 hb7 hbq hbp hb3 hb3a ho3 hbd HS_5
  have kA0_7 : (w7).cell? ⟨w.heap.size, 0, none⟩ = some _ := cell_of_row (w7) (w.heap.size) 0 _ _ (0, 0) hxA_7
  have kA1_7 : (w7).cell? ⟨w.heap.size, 1, none⟩ = some _ := cell_of_row (w7) (w.heap.size) 1 _ _ (0, 0) hxA_7
  have kX0_7 : (w7).cell? ⟨w4.heap.size, 0, none⟩ = some _ := cell_of_row (w7) (w4.heap.size) 0 _ _ (0, 0) hxX_7
  have kX1_7 : (w7).cell? ⟨w4.heap.size, 1, none⟩ = some _ := cell_of_row (w7) (w4.heap.size) 1 _ _ (0, 0) hxX_7
  try simp only [List.getElem?_toArray, List.getElem?_cons_zero, List.getElem?_cons_succ] at kA0_7 kA1_7 kX0_7 kX1_7
  have HB := Lib.hid hB_7
  clear hB_7 hoX_7 hxA_7 hlA_7 kA0_7 kA1_7 hxX_7 hlX_7 kX0_7 kX1_7
  go_wp2
  go_ret
  exact ⟨rfl, HB.out⟩

set_option maxRecDepth 100000 in
theorem lifted (os : Os) (started : os.Started) (H : Type) (enc : TypeId × Value → H) :
    ReturnsInHanded {} Try.checked os 4 .any (Rows.fnExactFetchedSpec.pre6 enc Try.prog Try.f4 Rows.fnExactFetchedRow.domain false) (Rows.fnExactFetchedSpec.post enc Try.prog Try.f4 false true false false) := by
  refine returnsInHanded_of_change (C := Try.checked) own started (by kernel_rfl) Try.func4
    (ChangeSpec.witness6 (enc := enc) (C := Try.checked) false ⟨#[], #[.agg #[.int .i64 0, .slice none 0 0], .int .i64 0], []⟩ 8 (by kernel_rfl) (by kernel_rfl) (by kernel_rfl) (by kernel_rfl)) ?_
  intro W base args ds gs before hval0 hW hcnd _
  have hval : ∀ (j : Nat) t v, Try.f4.params[j]? = some t → args[j]? = some v → Value.okWide Try.prog W .any base t v := hval0
  have hW' := hW
  obtain ⟨p, q, hA0, hV, rfl, hfz, hnd⟩ := hW
  have hA : DataW.TrodAll enc Try.prog W 0 (fun _ => true) true Try.f4.params.toList args.toList ds p := hA0
  rw [Try.params4] at hA hval
  obtain ⟨v0, vs0, d0, ds0, p0, q0, hargs0, rfl, rfl, h0, r0⟩ := trodAll_cons hA
  obtain ⟨v1, vs1, d1, ds1, p1, q1, hargs1, rfl, rfl, h1, r1⟩ := trodAll_cons r0
  obtain ⟨rfl, rfl, rfl⟩ := trodAll_nil r1
  obtain rfl : args = #[v0, v1] := by cases args; simp_all
  obtain ⟨rfl, rfl⟩ := trodVars_none hV
  have k0 := h0
  have lt0 : ∀ x ∈ p0, x.block < W.heap.size := by obtain ⟨m, hm⟩ := k0; exact DataW.trod_lt m _ _ _ hm
  obtain ⟨x0, va0, zs0, rfl, hr0, hs0, hn0, wx0⟩ := arg_shelf (hval 0 24 v0 rfl rfl) h0
  obtain ⟨a1, rfl, rfl, rfl, w1⟩ := open_int Try.underlying2 (hval 1 2 v1 rfl rfl) h1
  clear hA0 hval0
  refine (walk x0 va0 zs0 a1 W hr0 hs0 hn0 (wf_i64 w1).1 (wf_i64 w1).2).mono fun e W' ⟨he, bel⟩ => ?_
  subst he
  exact ⟨_, rfl, _, _, _, [], _, [], hW', trodAll_mk1 (shut_bool Try.underlying4 _), (trodAll_cons_mk (Below.trod laidOut (by kernel_rfl) (of_decide_eq_true (by kernel_rfl)) k0 bel lt0) (trodAll_cons_mk (shut_int Try.underlying2 w1) trodAll_mk0)), rfl, bel.frame _, fun h => by cases h⟩

theorem over : Rows.fnExactFetchedRow.holds Try.pinned (OpenSpec.ofChange Rows.fnExactFetchedSpec) :=
  OpenClaim.holds_of_wide 4 Try.f4 rfl rfl rfl rfl rfl rfl rfl ⟨rfl, rfl, rfl, rfl, rfl⟩ rfl rfl rfl rfl rfl (by kernel_rfl) Try.func4 (by kernel_rfl)
    (of_decide_eq_true (by kernel_rfl)) (by unfold Func.isWrapper; first | (rw [if_pos (by decide +kernel)]; kernel_rfl) | (rw [if_neg (by decide +kernel)]; exact ⟨rfl, rfl⟩))
    (fun os started H enc _ => lifted os started H enc)

theorem proved : Rows.FnExactFetchedSaid := over
end Go.Proofs.Ytncmeocjiinmfaq.exFetched
