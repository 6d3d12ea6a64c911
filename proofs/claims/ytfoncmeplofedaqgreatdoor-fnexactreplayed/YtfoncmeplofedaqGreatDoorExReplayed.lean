/- FnExactReplayed: at every list of notes impl.Replayed answers as spec.Replayed, writes into no argument and keeps nothing of one. For every list; errNoNote, which errors.Is is asked for, reads as the row lists it. (Written by lawgen14.py.) -/
import Derived.Test.YtfoncmeplofedaqGreatDoorRpdI
import Derived.Test.YtfoncmeplofedaqGreatDoorCards
import Derived.Test.YtfoncmeplofedaqGreatDoorTie
import Derived.SevenTiedAt
import Derived.LaidMore
import Derived.Stop.Joined
import Derived.Test.YtfoncmeplofedaqGreatDoorRpS
import Derived.Test.YtfoncmeplofedaqGreatDoorItM
import Derived.Test.YtfoncmeplofedaqGreatDoorShV
import Derived.Test.YtfoncmeplofedaqGreatDoorNtR
import Derived.Test.YtfoncmeplofedaqGreatDoorNtS
import Derived.Test.YtfoncmeplofedaqGreatDoorArgNotes
import Derived.Test.YtfoncmeplofedaqGreatDoorErrN
namespace Go.Proofs.YtfoncmeplofedaqGreatDoor.exReplayed
open Go.ChangeShapes Go.WideShapes Go.ChangeAt Go.RowKit
set_option linter.unusedVariables false
set_option linter.unusedSimpArgs false
theorem replayed_len (L : List Nt) : (replayedT L).1.2.length ≤ 300 := by
  cases h : playN L 0 [] 0 with
  | none => rw [replayed_none h]; exact Nat.zero_le _
  | some q =>
    obtain ⟨⟨r, l⟩, c⟩ := q
    rw [replayed_some h]
    show (syncL l).length ≤ 300
    rw [show (syncL l).length = l.length from List.length_map _]
    exact shelfB_len (play_right L 0 0 [] r c l right_empty h)
set_option maxHeartbeats 16000000 in
set_option maxRecDepth 100000 in
theorem walk (va : Value) (xs : List Nt) (w : World) (hL : laidMetH Tryz.prog Rows.fnExactReplayedRow.laid w) (ha : RdG ntf 3 w va xs) (hza : ∀ s ∈ xs, NtWf s) (hna : xs.length ≤ 9223372036854775807) :
    Calls Tryz.prog 3 #[va] w fun e w' => e = .returned (.bool true) ∧ Below w.heap.size w w' := by
  obtain ⟨b9, hG⟩ : ∃ b, NoNt w b := by
    have h9 := hL
    rw [MakeChecks.laidMetH_plain _ _ _ (by kernel_rfl)] at h9
    exact noNt_of h9
  have hB_a : Below w.heap.size w w := Below.refl _ _
  have hsz := szNoteS_any va xs 1048576 w ha hna (fun p hp => hza p hp) (by omega) (by omega)
  clear hL
  by_cases hbig : szS (ntTx xs) 1048576 < 0
  · obtain ⟨ao, cap, rfl⟩ := rdG_shape ha
    generalize szS (ntTx xs) 1048576 = z at hsz hbig
    clear ha hza hB_a hG
    go_enter Tryz.func3, Tryz.ntmps3
    go_wp2_with fail
    refine hsz.mono ?_
    rintro e w1 ⟨rfl, hb1⟩
    have HB1 := Lib.hid hb1
    clear hsz hb1
    go_wp2
    go_ret
    exact ⟨rfl, HB1.out⟩
  obtain ⟨hlx, hsx⟩ := szS_small (xs := ntTx xs) (by omega)
  have hl : xs.length ≤ 1048576 := by rw [List.length_map] at hlx; exact hlx
  have hst : ∀ p ∈ xs, p.2.2.size ≤ 1048576 := fun p hp => hsx p.2.2 (List.mem_map_of_mem hp)
  have HTO := fun (W : World) (h : Below w.heap.size w W) => toNoteS_any va xs W (rdG_below ha h) hl
  obtain ⟨R1, hR1⟩ : ∃ z, z = (replayedT xs).1.1 := ⟨_, rfl⟩
  obtain ⟨R2, hR2⟩ : ∃ z, z = (replayedT xs).1.2 := ⟨_, rfl⟩
  obtain ⟨R3, hR3⟩ : ∃ z, z = (replayedT xs).2 := ⟨_, rfl⟩
  have hlR : R2.length ≤ 1048576 := by rw [hR2]; have := replayed_len xs; omega
  have HSP : ∀ (W : World) (v : Value), RdG ntf 3 W v xs → Calls Tryz.prog 5 #[v] W fun e w' => ∃ u, e = .returned (.tuple #[.agg #[.int .i64 R1, u], .int .i64 R3]) ∧ OwnI w' W.heap.size u R2 ∧ Below W.heap.size W w' := fun W v h => by rw [hR1, hR2, hR3]; exact specReplayed_any v xs W h hl hst
  have HIM : ∀ (W : World) (v : Value), Below w.heap.size w W → RdG ntf 3 W v xs → Calls Tryz.prog 7 #[v] W fun e w' => ∃ u, e = .returned (.tuple #[.agg #[.int .i64 R1, u], .int .i64 R3]) ∧ OwnI w' W.heap.size u R2 ∧ Below W.heap.size W w' := fun W v hb h => by rw [hR1, hR2, hR3]; exact implReplayed_any v xs b9 W (noNt_below hG hb) h hl hst
  have hzz : (R3 != R3) = false := by simp
  obtain ⟨X, hX⟩ : ∃ X : Nat, X = 1 + 3 * xs.length := ⟨_, rfl⟩
  have HX := Lib.hid hX
  have hX0 : ¬ ((X : Nat) : Int) < 0 := by omega
  obtain ⟨K, hK⟩ : ∃ K : Nat, K = 1 + 5 * R2.length := ⟨_, rfl⟩
  have HK := Lib.hid hK
  have hK0 : ¬ ((K : Nat) : Int) < 0 := by omega
  have HMX := fun (W : World) (b : Nat) (v : Value) (h : OwnNt W b v xs) => (markNoteS_any b v 1 xs W h hl (by omega) (by omega)).mono (fun e w' (h9 : e = .returned (.int .i64 ((1 + 3 * xs.length : Nat) : Int)) ∧ OwnNt w' b v (marksNt 1 xs.length) ∧ W.grownBy w' v.ownBlock) => (⟨by rw [HX.out]; exact h9.1, h9.2.2⟩ : e = .returned (.int .i64 (X : Int)) ∧ W.grownBy w' v.ownBlock))
  have HMG := fun (W : World) (b : Nat) (v : Value) (h : OwnI W b v R2) => (markShelf_any b R1 v 1 R2 W h hlR (by omega) (by omega)).mono (fun e w' (h9 : e = .returned (.int .i64 ((1 + 5 * R2.length : Nat) : Int)) ∧ OwnI w' b v (marksIt 1 R2.length) ∧ W.grownBy w' v.ownBlock) => (⟨by rw [HK.out]; exact h9.1, h9.2.1, h9.2.2⟩ : e = .returned (.int .i64 (K : Int)) ∧ OwnI w' b v (marksIt 1 R2.length) ∧ W.grownBy w' v.ownBlock))
  have HHD := fun (W : World) (b : Nat) (v : Value) (h : OwnI W b v (marksIt 1 R2.length)) => (heldShelf_any R1 v 1 R2.length W (rdG_owns itW h) hlR (by omega) (by omega)).mono (fun e w' (h9 : e = .returned (.int .i64 ((1 + 5 * R2.length : Nat) : Int)) ∧ Below W.heap.size W w') => (⟨by rw [HK.out]; exact h9.1, h9.2⟩ : e = .returned (.int .i64 (K : Int)) ∧ Below W.heap.size W w'))
  clear hR1 hR2 hR3 hX hK
  have HA0 : Hid (RdG ntf 3 w va xs) := ha
  generalize szS (ntTx xs) 1048576 = zz at hsz hbig
  obtain ⟨ao, cap, hva⟩ := rdG_shape ha
  have hGH := Lib.hid hG
  clear ha hza hst hlx hsx hG
  subst hva
  go_enter Tryz.func3, Tryz.ntmps3
  go_wp2_with fail
  refine (hsz).mono ?_
  rintro e w1 ⟨rfl, hb1⟩
  have hB_1 := hB_a.trans (hb1.mono hB_a.size)
  have hs1 := hb1.size
  try rw [World.size_alloc] at hs1
  clear hB_a hb1
  clear hsz
  go_wp2_with fail
  refine (HTO (w1) hB_1).mono ?_
  rintro e w2 ⟨v1, rfl, ho1_2, hb2⟩
  have hB_2 := hB_1.trans (hb2.mono hB_1.size)
  have hs2 := hb2.size
  try rw [World.size_alloc] at hs2
  clear hB_1 hb2
  obtain ⟨ao1, ac1, hv1⟩ := ownG_shape ho1_2
  subst hv1
  have hv1 := ho1_2.lt
  try simp only [World.size_alloc] at hv1
  go_wp2_with fail
  refine (HSP (w2) _ (rdG_owns ntW ho1_2)).mono ?_
  rintro e w3 ⟨vW, rfl, hoW_3, hb3⟩
  have hB_3 := hB_2.trans (hb3.mono hB_2.size)
  have hs3 := hb3.size
  try rw [World.size_alloc] at hs3
  have ho1_3 := owns_below ho1_2 hb3
  clear hB_2 ho1_2 hb3
  obtain ⟨aoW, acW, hvW⟩ := ownG_shape hoW_3
  subst hvW
  have hvW := hoW_3.lt
  try simp only [World.size_alloc] at hvW
  clear ho1_3
  have hB_3a : Below w.heap.size w (w3.alloc (.cells #[.int .i64 R1, .slice aoW R2.length acW] 26)) := hB_3.alloc hB_3.size _
  have hoW_3a := hoW_3.alloc (.cells #[.int .i64 R1, .slice aoW R2.length acW] 26)
  clear hB_3 hoW_3
  have hxW_3a : (w3.alloc (.cells #[.int .i64 R1, .slice aoW R2.length acW] 26)).heap[w3.heap.size]? = _ := heap_alloc_new w3 _
  have hlW_3a : w3.heap.size < (w3.alloc (.cells #[.int .i64 R1, .slice aoW R2.length acW] 26)).heap.size := by rw [World.size_alloc]; omega
  have kW0_3a : (w3.alloc (.cells #[.int .i64 R1, .slice aoW R2.length acW] 26)).cell? ⟨w3.heap.size, 0, none⟩ = some _ := cell_of_row (w3.alloc (.cells #[.int .i64 R1, .slice aoW R2.length acW] 26)) (w3.heap.size) 0 _ _ (0, 0) hxW_3a
  have kW1_3a : (w3.alloc (.cells #[.int .i64 R1, .slice aoW R2.length acW] 26)).cell? ⟨w3.heap.size, 1, none⟩ = some _ := cell_of_row (w3.alloc (.cells #[.int .i64 R1, .slice aoW R2.length acW] 26)) (w3.heap.size) 1 _ _ (0, 0) hxW_3a
  try simp only [List.getElem?_toArray, List.getElem?_cons_zero, List.getElem?_cons_succ] at kW0_3a kW1_3a
  go_wp2_with fail
  refine (HTO (w3.alloc (.cells #[.int .i64 R1, .slice aoW R2.length acW] 26)) hB_3a).mono ?_
  rintro e w4 ⟨vX, rfl, hoX_4, hb4⟩
  have hB_4 := hB_3a.trans (hb4.mono hB_3a.size)
  have hs4 := hb4.size
  try rw [World.size_alloc] at hs4
  have hoW_4 := owns_below hoW_3a hb4
  have hxW_4 := (hb4.block (w3.heap.size) hlW_3a).trans hxW_3a
  have hlW_4 := Nat.lt_of_lt_of_le hlW_3a hb4.size
  clear hB_3a hoW_3a hxW_3a hlW_3a kW0_3a kW1_3a hb4
  obtain ⟨aoX, acX, hvX⟩ := ownG_shape hoX_4
  subst hvX
  have hvX := hoX_4.lt
  try simp only [World.size_alloc] at hvX
  have kW0_4 : (w4).cell? ⟨w3.heap.size, 0, none⟩ = some _ := cell_of_row (w4) (w3.heap.size) 0 _ _ (0, 0) hxW_4
  have kW1_4 : (w4).cell? ⟨w3.heap.size, 1, none⟩ = some _ := cell_of_row (w4) (w3.heap.size) 1 _ _ (0, 0) hxW_4
  try simp only [List.getElem?_toArray, List.getElem?_cons_zero, List.getElem?_cons_succ] at kW0_4 kW1_4
  go_wp2_with fail
  refine (HIM (w4) _ hB_4 (rdG_owns ntW hoX_4)).mono ?_
  rintro e w5 ⟨vG, rfl, hoG_5, hb5⟩
  have hB_5 := hB_4.trans (hb5.mono hB_4.size)
  have hs5 := hb5.size
  try rw [World.size_alloc] at hs5
  have hoW_5 := owns_below hoW_4 hb5
  have hoX_5 := owns_below hoX_4 hb5
  have hxW_5 := (hb5.block (w3.heap.size) hlW_4).trans hxW_4
  have hlW_5 := Nat.lt_of_lt_of_le hlW_4 hb5.size
  clear hB_4 hoW_4 hoX_4 hxW_4 hlW_4 kW0_4 kW1_4 hb5
  obtain ⟨aoG, acG, hvG⟩ := ownG_shape hoG_5
  subst hvG
  have hvG := hoG_5.lt
  try simp only [World.size_alloc] at hvG
  have kW0_5 : (w5).cell? ⟨w3.heap.size, 0, none⟩ = some _ := cell_of_row (w5) (w3.heap.size) 0 _ _ (0, 0) hxW_5
  have kW1_5 : (w5).cell? ⟨w3.heap.size, 1, none⟩ = some _ := cell_of_row (w5) (w3.heap.size) 1 _ _ (0, 0) hxW_5
  try simp only [List.getElem?_toArray, List.getElem?_cons_zero, List.getElem?_cons_succ] at kW0_5 kW1_5
  have hB_5a : Below w.heap.size w (w5.alloc (.cells #[.int .i64 R1, .slice aoG R2.length acG] 26)) := hB_5.alloc hB_5.size _
  have hoW_5a := hoW_5.alloc (.cells #[.int .i64 R1, .slice aoG R2.length acG] 26)
  have hoX_5a := hoX_5.alloc (.cells #[.int .i64 R1, .slice aoG R2.length acG] 26)
  have hoG_5a := hoG_5.alloc (.cells #[.int .i64 R1, .slice aoG R2.length acG] 26)
  have hxW_5a : (w5.alloc (.cells #[.int .i64 R1, .slice aoG R2.length acG] 26)).heap[w3.heap.size]? = _ := (heap_alloc_old w5 _ hlW_5).trans hxW_5
  have hlW_5a : w3.heap.size < (w5.alloc (.cells #[.int .i64 R1, .slice aoG R2.length acG] 26)).heap.size := by rw [World.size_alloc]; omega
  clear hB_5 hoW_5 hoX_5 hoG_5 hxW_5 hlW_5 kW0_5 kW1_5
  have hxG_5a : (w5.alloc (.cells #[.int .i64 R1, .slice aoG R2.length acG] 26)).heap[w5.heap.size]? = _ := heap_alloc_new w5 _
  have hlG_5a : w5.heap.size < (w5.alloc (.cells #[.int .i64 R1, .slice aoG R2.length acG] 26)).heap.size := by rw [World.size_alloc]; omega
  have kW0_5a : (w5.alloc (.cells #[.int .i64 R1, .slice aoG R2.length acG] 26)).cell? ⟨w3.heap.size, 0, none⟩ = some _ := cell_of_row (w5.alloc (.cells #[.int .i64 R1, .slice aoG R2.length acG] 26)) (w3.heap.size) 0 _ _ (0, 0) hxW_5a
  have kW1_5a : (w5.alloc (.cells #[.int .i64 R1, .slice aoG R2.length acG] 26)).cell? ⟨w3.heap.size, 1, none⟩ = some _ := cell_of_row (w5.alloc (.cells #[.int .i64 R1, .slice aoG R2.length acG] 26)) (w3.heap.size) 1 _ _ (0, 0) hxW_5a
  have kG0_5a : (w5.alloc (.cells #[.int .i64 R1, .slice aoG R2.length acG] 26)).cell? ⟨w5.heap.size, 0, none⟩ = some _ := cell_of_row (w5.alloc (.cells #[.int .i64 R1, .slice aoG R2.length acG] 26)) (w5.heap.size) 0 _ _ (0, 0) hxG_5a
  have kG1_5a : (w5.alloc (.cells #[.int .i64 R1, .slice aoG R2.length acG] 26)).cell? ⟨w5.heap.size, 1, none⟩ = some _ := cell_of_row (w5.alloc (.cells #[.int .i64 R1, .slice aoG R2.length acG] 26)) (w5.heap.size) 1 _ _ (0, 0) hxG_5a
  try simp only [List.getElem?_toArray, List.getElem?_cons_zero, List.getElem?_cons_succ] at kW0_5a kW1_5a kG0_5a kG1_5a
  go_wp2_with fail
  refine (eqShelf_same R1 (.slice aoG R2.length acG) (.slice aoW R2.length acW) R2 (w5.alloc (.cells #[.int .i64 R1, .slice aoG R2.length acG] 26)) (rdG_owns itW hoG_5a) (rdG_owns itW hoW_5a) hlR).mono ?_
  rintro e w6 ⟨rfl, hb6⟩
  have hB_6 := hB_5a.trans (hb6.mono hB_5a.size)
  have hs6 := hb6.size
  try rw [World.size_alloc] at hs6
  have hoW_6 := owns_below hoW_5a hb6
  have hoX_6 := owns_below hoX_5a hb6
  have hoG_6 := owns_below hoG_5a hb6
  have hxW_6 := (hb6.block (w3.heap.size) hlW_5a).trans hxW_5a
  have hlW_6 := Nat.lt_of_lt_of_le hlW_5a hb6.size
  have hxG_6 := (hb6.block (w5.heap.size) hlG_5a).trans hxG_5a
  have hlG_6 := Nat.lt_of_lt_of_le hlG_5a hb6.size
  clear hB_5a hoW_5a hoX_5a hoG_5a hxW_5a hlW_5a kW0_5a kW1_5a hxG_5a hlG_5a kG0_5a kG1_5a hb6
  have kW0_6 : (w6).cell? ⟨w3.heap.size, 0, none⟩ = some _ := cell_of_row (w6) (w3.heap.size) 0 _ _ (0, 0) hxW_6
  have kW1_6 : (w6).cell? ⟨w3.heap.size, 1, none⟩ = some _ := cell_of_row (w6) (w3.heap.size) 1 _ _ (0, 0) hxW_6
  have kG0_6 : (w6).cell? ⟨w5.heap.size, 0, none⟩ = some _ := cell_of_row (w6) (w5.heap.size) 0 _ _ (0, 0) hxG_6
  have kG1_6 : (w6).cell? ⟨w5.heap.size, 1, none⟩ = some _ := cell_of_row (w6) (w5.heap.size) 1 _ _ (0, 0) hxG_6
  try simp only [List.getElem?_toArray, List.getElem?_cons_zero, List.getElem?_cons_succ] at kW0_6 kW1_6 kG0_6 kG1_6
  go_wp2_with fail
  refine (HTO (w6) hB_6).mono ?_
  rintro e w7 ⟨v4, rfl, ho4_7, hb7⟩
  have hB_7 := hB_6.trans (hb7.mono hB_6.size)
  have hs7 := hb7.size
  try rw [World.size_alloc] at hs7
  have hoW_7 := owns_below hoW_6 hb7
  have hoX_7 := owns_below hoX_6 hb7
  have hoG_7 := owns_below hoG_6 hb7
  have hxW_7 := (hb7.block (w3.heap.size) hlW_6).trans hxW_6
  have hlW_7 := Nat.lt_of_lt_of_le hlW_6 hb7.size
  have hxG_7 := (hb7.block (w5.heap.size) hlG_6).trans hxG_6
  have hlG_7 := Nat.lt_of_lt_of_le hlG_6 hb7.size
  clear hB_6 hoW_6 hoX_6 hoG_6 hxW_6 hlW_6 kW0_6 kW1_6 hxG_6 hlG_6 kG0_6 kG1_6 hb7
  obtain ⟨ao4, ac4, hv4⟩ := ownG_shape ho4_7
  subst hv4
  have hv4 := ho4_7.lt
  try simp only [World.size_alloc] at hv4
  have kW0_7 : (w7).cell? ⟨w3.heap.size, 0, none⟩ = some _ := cell_of_row (w7) (w3.heap.size) 0 _ _ (0, 0) hxW_7
  have kW1_7 : (w7).cell? ⟨w3.heap.size, 1, none⟩ = some _ := cell_of_row (w7) (w3.heap.size) 1 _ _ (0, 0) hxW_7
  have kG0_7 : (w7).cell? ⟨w5.heap.size, 0, none⟩ = some _ := cell_of_row (w7) (w5.heap.size) 0 _ _ (0, 0) hxG_7
  have kG1_7 : (w7).cell? ⟨w5.heap.size, 1, none⟩ = some _ := cell_of_row (w7) (w5.heap.size) 1 _ _ (0, 0) hxG_7
  try simp only [List.getElem?_toArray, List.getElem?_cons_zero, List.getElem?_cons_succ] at kW0_7 kW1_7 kG0_7 kG1_7
  go_wp2_with fail
  refine (eqNoteS_same (.slice aoX xs.length acX) (.slice ao4 xs.length ac4) xs (w7) (rdG_owns ntW hoX_7) (rdG_owns ntW ho4_7) (by omega)).mono ?_
  rintro e w8 ⟨rfl, hb8⟩
  have hB_8 := hB_7.trans (hb8.mono hB_7.size)
  have hs8 := hb8.size
  try rw [World.size_alloc] at hs8
  have hoW_8 := owns_below hoW_7 hb8
  have hoX_8 := owns_below hoX_7 hb8
  have hoG_8 := owns_below hoG_7 hb8
  have ho4_8 := owns_below ho4_7 hb8
  have hxW_8 := (hb8.block (w3.heap.size) hlW_7).trans hxW_7
  have hlW_8 := Nat.lt_of_lt_of_le hlW_7 hb8.size
  have hxG_8 := (hb8.block (w5.heap.size) hlG_7).trans hxG_7
  have hlG_8 := Nat.lt_of_lt_of_le hlG_7 hb8.size
  clear hB_7 hoW_7 hoX_7 hoG_7 ho4_7 hxW_7 hlW_7 kW0_7 kW1_7 hxG_7 hlG_7 kG0_7 kG1_7 hb8
  have kW0_8 : (w8).cell? ⟨w3.heap.size, 0, none⟩ = some _ := cell_of_row (w8) (w3.heap.size) 0 _ _ (0, 0) hxW_8
  have kW1_8 : (w8).cell? ⟨w3.heap.size, 1, none⟩ = some _ := cell_of_row (w8) (w3.heap.size) 1 _ _ (0, 0) hxW_8
  have kG0_8 : (w8).cell? ⟨w5.heap.size, 0, none⟩ = some _ := cell_of_row (w8) (w5.heap.size) 0 _ _ (0, 0) hxG_8
  have kG1_8 : (w8).cell? ⟨w5.heap.size, 1, none⟩ = some _ := cell_of_row (w8) (w5.heap.size) 1 _ _ (0, 0) hxG_8
  try simp only [List.getElem?_toArray, List.getElem?_cons_zero, List.getElem?_cons_succ] at kW0_8 kW1_8 kG0_8 kG1_8
  clear ho4_8
  go_wp2_with fail
  refine (HMX (w8) _ (.slice aoX xs.length acX) hoX_8).mono ?_
  rintro e w9 ⟨rfl, hg9⟩
  have hs9 := hg9.size
  have hB_9 : Below w.heap.size w w9 := hB_8.grown hg9 hB_8.size (fun q hq => by have := (hvX q hq).1; omega)
  have hoW_9 := owns_grown hoW_8 hg9 (fun q hq h => by have h1 := hvX q hq; have h2 := hvW q h; omega)
  have hoG_9 := owns_grown hoG_8 hg9 (fun q hq h => by have h1 := hvX q hq; have h2 := hvG q h; omega)
  have hxW_9 := (hg9.block (w3.heap.size) hlW_8 (fun h => by have h1 := hvX _ h.symm; omega)).trans hxW_8
  have hlW_9 := Nat.lt_of_lt_of_le hlW_8 hg9.size
  have hxG_9 := (hg9.block (w5.heap.size) hlG_8 (fun h => by have h1 := hvX _ h.symm; omega)).trans hxG_8
  have hlG_9 := Nat.lt_of_lt_of_le hlG_8 hg9.size
  clear hB_8 hoW_8 hoX_8 hoG_8 hxW_8 hlW_8 kW0_8 kW1_8 hxG_8 hlG_8 kG0_8 kG1_8 hg9
  have kW0_9 : (w9).cell? ⟨w3.heap.size, 0, none⟩ = some _ := cell_of_row (w9) (w3.heap.size) 0 _ _ (0, 0) hxW_9
  have kW1_9 : (w9).cell? ⟨w3.heap.size, 1, none⟩ = some _ := cell_of_row (w9) (w3.heap.size) 1 _ _ (0, 0) hxW_9
  have kG0_9 : (w9).cell? ⟨w5.heap.size, 0, none⟩ = some _ := cell_of_row (w9) (w5.heap.size) 0 _ _ (0, 0) hxG_9
  have kG1_9 : (w9).cell? ⟨w5.heap.size, 1, none⟩ = some _ := cell_of_row (w9) (w5.heap.size) 1 _ _ (0, 0) hxG_9
  try simp only [List.getElem?_toArray, List.getElem?_cons_zero, List.getElem?_cons_succ] at kW0_9 kW1_9 kG0_9 kG1_9
  go_wp2_with fail
  refine (eqShelf_same R1 (.slice aoG R2.length acG) (.slice aoW R2.length acW) R2 (w9) (rdG_owns itW hoG_9) (rdG_owns itW hoW_9) hlR).mono ?_
  rintro e w10 ⟨rfl, hb10⟩
  have hB_10 := hB_9.trans (hb10.mono hB_9.size)
  have hs10 := hb10.size
  try rw [World.size_alloc] at hs10
  have hoW_10 := owns_below hoW_9 hb10
  have hoG_10 := owns_below hoG_9 hb10
  have hxW_10 := (hb10.block (w3.heap.size) hlW_9).trans hxW_9
  have hlW_10 := Nat.lt_of_lt_of_le hlW_9 hb10.size
  have hxG_10 := (hb10.block (w5.heap.size) hlG_9).trans hxG_9
  have hlG_10 := Nat.lt_of_lt_of_le hlG_9 hb10.size
  clear hB_9 hoW_9 hoG_9 hxW_9 hlW_9 kW0_9 kW1_9 hxG_9 hlG_9 kG0_9 kG1_9 hb10
  have kW0_10 : (w10).cell? ⟨w3.heap.size, 0, none⟩ = some _ := cell_of_row (w10) (w3.heap.size) 0 _ _ (0, 0) hxW_10
  have kW1_10 : (w10).cell? ⟨w3.heap.size, 1, none⟩ = some _ := cell_of_row (w10) (w3.heap.size) 1 _ _ (0, 0) hxW_10
  have kG0_10 : (w10).cell? ⟨w5.heap.size, 0, none⟩ = some _ := cell_of_row (w10) (w5.heap.size) 0 _ _ (0, 0) hxG_10
  have kG1_10 : (w10).cell? ⟨w5.heap.size, 1, none⟩ = some _ := cell_of_row (w10) (w5.heap.size) 1 _ _ (0, 0) hxG_10
  try simp only [List.getElem?_toArray, List.getElem?_cons_zero, List.getElem?_cons_succ] at kW0_10 kW1_10 kG0_10 kG1_10
  go_wp2_with fail
  refine (HMG (w10) _ (.slice aoG R2.length acG) hoG_10).mono ?_
  rintro e w11 ⟨rfl, hoM_11, hg11⟩
  have hs11 := hg11.size
  have hB_11 : Below w.heap.size w w11 := hB_10.grown hg11 hB_10.size (fun q hq => by have := (hvG q hq).1; omega)
  have hoW_11 := owns_grown hoW_10 hg11 (fun q hq h => by have h1 := hvG q hq; have h2 := hvW q h; omega)
  have hxW_11 := (hg11.block (w3.heap.size) hlW_10 (fun h => by have h1 := hvG _ h.symm; omega)).trans hxW_10
  have hlW_11 := Nat.lt_of_lt_of_le hlW_10 hg11.size
  have hxG_11 := (hg11.block (w5.heap.size) hlG_10 (fun h => by have h1 := hvG _ h.symm; omega)).trans hxG_10
  have hlG_11 := Nat.lt_of_lt_of_le hlG_10 hg11.size
  clear hB_10 hoW_10 hoG_10 hxW_10 hlW_10 kW0_10 kW1_10 hxG_10 hlG_10 kG0_10 kG1_10 hg11
  have kW0_11 : (w11).cell? ⟨w3.heap.size, 0, none⟩ = some _ := cell_of_row (w11) (w3.heap.size) 0 _ _ (0, 0) hxW_11
  have kW1_11 : (w11).cell? ⟨w3.heap.size, 1, none⟩ = some _ := cell_of_row (w11) (w3.heap.size) 1 _ _ (0, 0) hxW_11
  have kG0_11 : (w11).cell? ⟨w5.heap.size, 0, none⟩ = some _ := cell_of_row (w11) (w5.heap.size) 0 _ _ (0, 0) hxG_11
  have kG1_11 : (w11).cell? ⟨w5.heap.size, 1, none⟩ = some _ := cell_of_row (w11) (w5.heap.size) 1 _ _ (0, 0) hxG_11
  try simp only [List.getElem?_toArray, List.getElem?_cons_zero, List.getElem?_cons_succ] at kW0_11 kW1_11 kG0_11 kG1_11
  have hvM := hoM_11.lt
  clear hvG hvX
  go_wp2_with fail
  refine (HHD (w11) _ (.slice aoG R2.length acG) hoM_11).mono ?_
  rintro e w12 ⟨rfl, hb12⟩
  have hB_12 := hB_11.trans (hb12.mono hB_11.size)
  have hs12 := hb12.size
  try rw [World.size_alloc] at hs12
  have hoW_12 := owns_below hoW_11 hb12
  have hoM_12 := owns_below hoM_11 hb12
  have hxW_12 := (hb12.block (w3.heap.size) hlW_11).trans hxW_11
  have hlW_12 := Nat.lt_of_lt_of_le hlW_11 hb12.size
  have hxG_12 := (hb12.block (w5.heap.size) hlG_11).trans hxG_11
  have hlG_12 := Nat.lt_of_lt_of_le hlG_11 hb12.size
  clear hB_11 hoW_11 hoM_11 hxW_11 hlW_11 kW0_11 kW1_11 hxG_11 hlG_11 kG0_11 kG1_11 hb12
  have kW0_12 : (w12).cell? ⟨w3.heap.size, 0, none⟩ = some _ := cell_of_row (w12) (w3.heap.size) 0 _ _ (0, 0) hxW_12
  have kW1_12 : (w12).cell? ⟨w3.heap.size, 1, none⟩ = some _ := cell_of_row (w12) (w3.heap.size) 1 _ _ (0, 0) hxW_12
  have kG0_12 : (w12).cell? ⟨w5.heap.size, 0, none⟩ = some _ := cell_of_row (w12) (w5.heap.size) 0 _ _ (0, 0) hxG_12
  have kG1_12 : (w12).cell? ⟨w5.heap.size, 1, none⟩ = some _ := cell_of_row (w12) (w5.heap.size) 1 _ _ (0, 0) hxG_12
  try simp only [List.getElem?_toArray, List.getElem?_cons_zero, List.getElem?_cons_succ] at kW0_12 kW1_12 kG0_12 kG1_12
  go_wp2_with fail
  refine (HTO (w12) hB_12).mono ?_
  rintro e w13 ⟨v5, rfl, ho5_13, hb13⟩
  have hB_13 := hB_12.trans (hb13.mono hB_12.size)
  have hs13 := hb13.size
  try rw [World.size_alloc] at hs13
  have hoW_13 := owns_below hoW_12 hb13
  have hoM_13 := owns_below hoM_12 hb13
  have hxW_13 := (hb13.block (w3.heap.size) hlW_12).trans hxW_12
  have hlW_13 := Nat.lt_of_lt_of_le hlW_12 hb13.size
  have hxG_13 := (hb13.block (w5.heap.size) hlG_12).trans hxG_12
  have hlG_13 := Nat.lt_of_lt_of_le hlG_12 hb13.size
  clear hB_12 hoW_12 hoM_12 hxW_12 hlW_12 kW0_12 kW1_12 hxG_12 hlG_12 kG0_12 kG1_12 hb13
  obtain ⟨ao5, ac5, hv5⟩ := ownG_shape ho5_13
  subst hv5
  have hv5 := ho5_13.lt
  try simp only [World.size_alloc] at hv5
  have kW0_13 : (w13).cell? ⟨w3.heap.size, 0, none⟩ = some _ := cell_of_row (w13) (w3.heap.size) 0 _ _ (0, 0) hxW_13
  have kW1_13 : (w13).cell? ⟨w3.heap.size, 1, none⟩ = some _ := cell_of_row (w13) (w3.heap.size) 1 _ _ (0, 0) hxW_13
  have kG0_13 : (w13).cell? ⟨w5.heap.size, 0, none⟩ = some _ := cell_of_row (w13) (w5.heap.size) 0 _ _ (0, 0) hxG_13
  have kG1_13 : (w13).cell? ⟨w5.heap.size, 1, none⟩ = some _ := cell_of_row (w13) (w5.heap.size) 1 _ _ (0, 0) hxG_13
  try simp only [List.getElem?_toArray, List.getElem?_cons_zero, List.getElem?_cons_succ] at kW0_13 kW1_13 kG0_13 kG1_13
  go_wp2_with fail
  refine (HIM (w13) _ hB_13 (rdG_owns ntW ho5_13)).mono ?_
  rintro e w14 ⟨vH, rfl, hoH_14, hb14⟩
  have hB_14 := hB_13.trans (hb14.mono hB_13.size)
  have hs14 := hb14.size
  try rw [World.size_alloc] at hs14
  have hoW_14 := owns_below hoW_13 hb14
  have hoM_14 := owns_below hoM_13 hb14
  have ho5_14 := owns_below ho5_13 hb14
  have hxW_14 := (hb14.block (w3.heap.size) hlW_13).trans hxW_13
  have hlW_14 := Nat.lt_of_lt_of_le hlW_13 hb14.size
  have hxG_14 := (hb14.block (w5.heap.size) hlG_13).trans hxG_13
  have hlG_14 := Nat.lt_of_lt_of_le hlG_13 hb14.size
  clear hB_13 hoW_13 hoM_13 ho5_13 hxW_13 hlW_13 kW0_13 kW1_13 hxG_13 hlG_13 kG0_13 kG1_13 hb14
  obtain ⟨aoH, acH, hvH⟩ := ownG_shape hoH_14
  subst hvH
  have hvH := hoH_14.lt
  try simp only [World.size_alloc] at hvH
  have kW0_14 : (w14).cell? ⟨w3.heap.size, 0, none⟩ = some _ := cell_of_row (w14) (w3.heap.size) 0 _ _ (0, 0) hxW_14
  have kW1_14 : (w14).cell? ⟨w3.heap.size, 1, none⟩ = some _ := cell_of_row (w14) (w3.heap.size) 1 _ _ (0, 0) hxW_14
  have kG0_14 : (w14).cell? ⟨w5.heap.size, 0, none⟩ = some _ := cell_of_row (w14) (w5.heap.size) 0 _ _ (0, 0) hxG_14
  have kG1_14 : (w14).cell? ⟨w5.heap.size, 1, none⟩ = some _ := cell_of_row (w14) (w5.heap.size) 1 _ _ (0, 0) hxG_14
  try simp only [List.getElem?_toArray, List.getElem?_cons_zero, List.getElem?_cons_succ] at kW0_14 kW1_14 kG0_14 kG1_14
  clear ho5_14
  have hB_14a : Below w.heap.size w (w14.alloc (.cells #[.int .i64 R1, .slice aoH R2.length acH] 26)) := hB_14.alloc hB_14.size _
  have hoW_14a := hoW_14.alloc (.cells #[.int .i64 R1, .slice aoH R2.length acH] 26)
  have hoM_14a := hoM_14.alloc (.cells #[.int .i64 R1, .slice aoH R2.length acH] 26)
  have hoH_14a := hoH_14.alloc (.cells #[.int .i64 R1, .slice aoH R2.length acH] 26)
  have hxW_14a : (w14.alloc (.cells #[.int .i64 R1, .slice aoH R2.length acH] 26)).heap[w3.heap.size]? = _ := (heap_alloc_old w14 _ hlW_14).trans hxW_14
  have hlW_14a : w3.heap.size < (w14.alloc (.cells #[.int .i64 R1, .slice aoH R2.length acH] 26)).heap.size := by rw [World.size_alloc]; omega
  have hxG_14a : (w14.alloc (.cells #[.int .i64 R1, .slice aoH R2.length acH] 26)).heap[w5.heap.size]? = _ := (heap_alloc_old w14 _ hlG_14).trans hxG_14
  have hlG_14a : w5.heap.size < (w14.alloc (.cells #[.int .i64 R1, .slice aoH R2.length acH] 26)).heap.size := by rw [World.size_alloc]; omega
  clear hB_14 hoW_14 hoM_14 hoH_14 hxW_14 hlW_14 kW0_14 kW1_14 hxG_14 hlG_14 kG0_14 kG1_14
  have hxH_14a : (w14.alloc (.cells #[.int .i64 R1, .slice aoH R2.length acH] 26)).heap[w14.heap.size]? = _ := heap_alloc_new w14 _
  have hlH_14a : w14.heap.size < (w14.alloc (.cells #[.int .i64 R1, .slice aoH R2.length acH] 26)).heap.size := by rw [World.size_alloc]; omega
  have kW0_14a : (w14.alloc (.cells #[.int .i64 R1, .slice aoH R2.length acH] 26)).cell? ⟨w3.heap.size, 0, none⟩ = some _ := cell_of_row (w14.alloc (.cells #[.int .i64 R1, .slice aoH R2.length acH] 26)) (w3.heap.size) 0 _ _ (0, 0) hxW_14a
  have kW1_14a : (w14.alloc (.cells #[.int .i64 R1, .slice aoH R2.length acH] 26)).cell? ⟨w3.heap.size, 1, none⟩ = some _ := cell_of_row (w14.alloc (.cells #[.int .i64 R1, .slice aoH R2.length acH] 26)) (w3.heap.size) 1 _ _ (0, 0) hxW_14a
  have kG0_14a : (w14.alloc (.cells #[.int .i64 R1, .slice aoH R2.length acH] 26)).cell? ⟨w5.heap.size, 0, none⟩ = some _ := cell_of_row (w14.alloc (.cells #[.int .i64 R1, .slice aoH R2.length acH] 26)) (w5.heap.size) 0 _ _ (0, 0) hxG_14a
  have kG1_14a : (w14.alloc (.cells #[.int .i64 R1, .slice aoH R2.length acH] 26)).cell? ⟨w5.heap.size, 1, none⟩ = some _ := cell_of_row (w14.alloc (.cells #[.int .i64 R1, .slice aoH R2.length acH] 26)) (w5.heap.size) 1 _ _ (0, 0) hxG_14a
  have kH0_14a : (w14.alloc (.cells #[.int .i64 R1, .slice aoH R2.length acH] 26)).cell? ⟨w14.heap.size, 0, none⟩ = some _ := cell_of_row (w14.alloc (.cells #[.int .i64 R1, .slice aoH R2.length acH] 26)) (w14.heap.size) 0 _ _ (0, 0) hxH_14a
  have kH1_14a : (w14.alloc (.cells #[.int .i64 R1, .slice aoH R2.length acH] 26)).cell? ⟨w14.heap.size, 1, none⟩ = some _ := cell_of_row (w14.alloc (.cells #[.int .i64 R1, .slice aoH R2.length acH] 26)) (w14.heap.size) 1 _ _ (0, 0) hxH_14a
  try simp only [List.getElem?_toArray, List.getElem?_cons_zero, List.getElem?_cons_succ] at kW0_14a kW1_14a kG0_14a kG1_14a kH0_14a kH1_14a
  go_wp2_with fail
  refine (eqShelf_same R1 (.slice aoH R2.length acH) (.slice aoW R2.length acW) R2 (w14.alloc (.cells #[.int .i64 R1, .slice aoH R2.length acH] 26)) (rdG_owns itW hoH_14a) (rdG_owns itW hoW_14a) hlR).mono ?_
  rintro e w15 ⟨rfl, hb15⟩
  have hB_15 := hB_14a.trans (hb15.mono hB_14a.size)
  have hs15 := hb15.size
  try rw [World.size_alloc] at hs15
  have hoW_15 := owns_below hoW_14a hb15
  have hoM_15 := owns_below hoM_14a hb15
  have hoH_15 := owns_below hoH_14a hb15
  have hxW_15 := (hb15.block (w3.heap.size) hlW_14a).trans hxW_14a
  have hlW_15 := Nat.lt_of_lt_of_le hlW_14a hb15.size
  have hxG_15 := (hb15.block (w5.heap.size) hlG_14a).trans hxG_14a
  have hlG_15 := Nat.lt_of_lt_of_le hlG_14a hb15.size
  have hxH_15 := (hb15.block (w14.heap.size) hlH_14a).trans hxH_14a
  have hlH_15 := Nat.lt_of_lt_of_le hlH_14a hb15.size
  clear hB_14a hoW_14a hoM_14a hoH_14a hxW_14a hlW_14a kW0_14a kW1_14a hxG_14a hlG_14a kG0_14a kG1_14a hxH_14a hlH_14a kH0_14a kH1_14a hb15
  have kW0_15 : (w15).cell? ⟨w3.heap.size, 0, none⟩ = some _ := cell_of_row (w15) (w3.heap.size) 0 _ _ (0, 0) hxW_15
  have kW1_15 : (w15).cell? ⟨w3.heap.size, 1, none⟩ = some _ := cell_of_row (w15) (w3.heap.size) 1 _ _ (0, 0) hxW_15
  have kG0_15 : (w15).cell? ⟨w5.heap.size, 0, none⟩ = some _ := cell_of_row (w15) (w5.heap.size) 0 _ _ (0, 0) hxG_15
  have kG1_15 : (w15).cell? ⟨w5.heap.size, 1, none⟩ = some _ := cell_of_row (w15) (w5.heap.size) 1 _ _ (0, 0) hxG_15
  have kH0_15 : (w15).cell? ⟨w14.heap.size, 0, none⟩ = some _ := cell_of_row (w15) (w14.heap.size) 0 _ _ (0, 0) hxH_15
  have kH1_15 : (w15).cell? ⟨w14.heap.size, 1, none⟩ = some _ := cell_of_row (w15) (w14.heap.size) 1 _ _ (0, 0) hxH_15
  try simp only [List.getElem?_toArray, List.getElem?_cons_zero, List.getElem?_cons_succ] at kW0_15 kW1_15 kG0_15 kG1_15 kH0_15 kH1_15
  go_wp2_with fail
  refine (HHD (w15) _ (.slice aoG R2.length acG) hoM_15).mono ?_
  rintro e w16 ⟨rfl, hb16⟩
  have hB_16 := hB_15.trans (hb16.mono hB_15.size)
  have hs16 := hb16.size
  try rw [World.size_alloc] at hs16
  have hoW_16 := owns_below hoW_15 hb16
  have hoM_16 := owns_below hoM_15 hb16
  have hoH_16 := owns_below hoH_15 hb16
  have hxW_16 := (hb16.block (w3.heap.size) hlW_15).trans hxW_15
  have hlW_16 := Nat.lt_of_lt_of_le hlW_15 hb16.size
  have hxG_16 := (hb16.block (w5.heap.size) hlG_15).trans hxG_15
  have hlG_16 := Nat.lt_of_lt_of_le hlG_15 hb16.size
  have hxH_16 := (hb16.block (w14.heap.size) hlH_15).trans hxH_15
  have hlH_16 := Nat.lt_of_lt_of_le hlH_15 hb16.size
  clear hB_15 hoW_15 hoM_15 hoH_15 hxW_15 hlW_15 kW0_15 kW1_15 hxG_15 hlG_15 kG0_15 kG1_15 hxH_15 hlH_15 kH0_15 kH1_15 hb16
  have kW0_16 : (w16).cell? ⟨w3.heap.size, 0, none⟩ = some _ := cell_of_row (w16) (w3.heap.size) 0 _ _ (0, 0) hxW_16
  have kW1_16 : (w16).cell? ⟨w3.heap.size, 1, none⟩ = some _ := cell_of_row (w16) (w3.heap.size) 1 _ _ (0, 0) hxW_16
  have kG0_16 : (w16).cell? ⟨w5.heap.size, 0, none⟩ = some _ := cell_of_row (w16) (w5.heap.size) 0 _ _ (0, 0) hxG_16
  have kG1_16 : (w16).cell? ⟨w5.heap.size, 1, none⟩ = some _ := cell_of_row (w16) (w5.heap.size) 1 _ _ (0, 0) hxG_16
  have kH0_16 : (w16).cell? ⟨w14.heap.size, 0, none⟩ = some _ := cell_of_row (w16) (w14.heap.size) 0 _ _ (0, 0) hxH_16
  have kH1_16 : (w16).cell? ⟨w14.heap.size, 1, none⟩ = some _ := cell_of_row (w16) (w14.heap.size) 1 _ _ (0, 0) hxH_16
  try simp only [List.getElem?_toArray, List.getElem?_cons_zero, List.getElem?_cons_succ] at kW0_16 kW1_16 kG0_16 kG1_16 kH0_16 kH1_16
  have HB := Lib.hid hB_16
  clear hB_16 hoW_16 hoM_16 hoH_16 hxW_16 hlW_16 kW0_16 kW1_16 hxG_16 hlG_16 kG0_16 kG1_16 hxH_16 hlH_16 kH0_16 kH1_16
  go_wp2
  go_ret
  exact ⟨rfl, HB.out⟩

theorem door_met (os : Os) (args : Array Value) : laidMetH Tryz.prog Rows.fnExactReplayedRow.laid ((World.doorLaid Tryz.prog 400 os).forCall (fun _ _ => 0) ⟨#[], args, []⟩).memory :=
  laidMetH_of_parts3 (fuel := 8) (laidMet_of_run' 8 (by kernel_rfl) (by kernel_rfl)) (by kernel_rfl) (by kernel_rfl)
set_option maxRecDepth 100000 in
theorem lifted (os : Os) (started : os.Started) (H : Type) (enc : TypeId × Value → H) :
    ReturnsInHanded {} Tryz.checked os 3 .any (fun w args => (Rows.fnExactReplayedSpec.pre enc Tryz.prog Tryz.f3 [] false w args ∧ laidMetH Tryz.prog Rows.fnExactReplayedRow.laid w) ∧ sizedMet enc Tryz.prog Tryz.f3 (OpenSpec.ofChange Rows.fnExactReplayedSpec) false w args)
      (Rows.fnExactReplayedSpec.post enc Tryz.prog Tryz.f3 false true false false) := by
  refine returnsInHanded_of_change_and (C := Tryz.checked) (X := fun w _ => laidMetH Tryz.prog Rows.fnExactReplayedRow.laid w) (fun _ _ _ hh h => h.of_heap hh) own started (by kernel_rfl) Tryz.func3
    (ChangeSpec.witness_shaped (enc := enc) (C := Tryz.checked) (os := os) (X := fun w _ => laidMetH Tryz.prog Rows.fnExactReplayedRow.laid w) false (World.doorLaid Tryz.prog 400 os) #[.slice none 0 0] 8 rfl (World.shaped_of_RefB (by kernel_rfl) (by kernel_rfl)) (by kernel_rfl) (by kernel_rfl) (by kernel_rfl) (door_met os _)) ?_
  intro W base args ds gs before hval0 hW _ _ hL _
  have hval : ∀ (j : Nat) t v, Tryz.f3.params[j]? = some t → args[j]? = some v → Value.okWide Tryz.prog W .any base t v := hval0
  have hW' := hW
  obtain ⟨p, q, hA0, hV, rfl, hfz, hnd⟩ := hW
  have hA : DataW.TrodAll enc Tryz.prog W 0 (fun _ => true) true Tryz.f3.params.toList args.toList ds p := hA0
  rw [Tryz.params3] at hA hval
  obtain ⟨v0, vs0, d0, ds0, p0, q0, hargs0, rfl, rfl, h0, r0⟩ := trodAll_cons hA
  obtain ⟨rfl, rfl, rfl⟩ := trodAll_nil r0
  obtain rfl : args = #[v0] := by cases args; simp_all
  obtain ⟨bV, hv1⟩ : ∃ b : Addr, W.var? Tryz.prog "loop.example/g00260/impl.errNoNote" = some #[.iface 153 (.pointer (some b))] := by first | exact noNt_varH hL | exact noNt_var1 hL.1
  obtain ⟨rfl, rfl⟩ := hV.unique (vars_read1 enc noNtG noNtGT Tryz.underlying51 hv1 trivial _)
  obtain ⟨a0, len0, cap0, rfl⟩ := okWide_slice Tryz.underlying22 (hval 0 22 v0 rfl rfl)
  have k0 := h0
  have lt0 : ∀ x ∈ p0, x.block < W.heap.size := by obtain ⟨m, hm⟩ := k0; exact DataW.trod_lt m _ _ _ hm
  obtain ⟨zs0, hr0, hs0⟩ := arg_notes h0
  clear hA0 hval0
  refine (walk _ zs0 W hL hr0 hs0.1 hs0.2).mono fun e W' ⟨he, bel⟩ => ?_
  subst he
  exact ⟨_, rfl, _, _, _, [], _, [.cell 0 0], hW', trodAll_mk1 (shut_bool Tryz.underlying4 _), (trodAll_cons_mk (Below.trod laidOut (by kernel_rfl) (of_decide_eq_true (by kernel_rfl)) k0 bel lt0) trodAll_mk0), vars_read1 enc noNtG noNtGT Tryz.underlying51 (noNt_varB hv1 bel) trivial _, bel.frame _, fun h => by cases h⟩

theorem over : Rows.fnExactReplayedRow.holds Tryz.pinned (OpenSpec.ofChange Rows.fnExactReplayedSpec) :=
  OpenClaim.holds_of_wide 3 Tryz.f3 rfl rfl rfl rfl rfl rfl rfl ⟨rfl, rfl, rfl, rfl, rfl⟩ rfl rfl rfl rfl rfl (by kernel_rfl) Tryz.func3 (by kernel_rfl)
    (of_decide_eq_true (by kernel_rfl)) (by unfold Func.isWrapper; first | (rw [if_pos (by decide +kernel)]; kernel_rfl) | (rw [if_neg (by decide +kernel)]; exact ⟨rfl, rfl⟩))
    (fun os started H enc _ => lifted os started H enc)

theorem proved : Rows.FnExactReplayedCardSaid :=
  Claim7.holds_tied_plain_at .later [] Rows.fnExactReplayedCard.laidKinds true Rows.fnExactReplayedCard.stood.harness Rows.fnExactReplayedCard.stood.looks
    over (fun _ h => by cases h) (by kernel_rfl) (fun _ h => by cases h) fnExactReplayed_row_tie rfl ⟨rfl, rfl⟩ (by kernel_rfl) rfl
    (fun f fn hf hfn => by
      obtain rfl : f = 3 := Option.some.inj ((show Tryz.prog.funcNamed Rows.fnExactReplayedRow.func = some 3 by kernel_rfl).symm.trans hf) |>.symm
      obtain rfl : fn = Tryz.f3 := (Option.some.inj (Tryz.func3.symm.trans hfn)).symm
      exact ⟨by kernel_rfl, fun j t ht => by
        rw [Tryz.params3] at ht
        have hm : t ∈ [22] := by simpa using Array.mem_of_getElem? ht
        have hall : ([22].all fun u => !Tryz.prog.wantsStandIn u) = true := by kernel_rfl
        exact (show Tryz.prog.wantsStandIn t = false by simpa using List.all_eq_true.1 hall t hm)⟩)
    (by kernel_rfl)
end Go.Proofs.YtfoncmeplofedaqGreatDoor.exReplayed
