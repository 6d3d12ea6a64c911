/- FnSweeps: with more marks a sweep takes no more, of an earlier round no more either, and done again it takes nothing. For every code, without a condition. (Written by sweepsgen.py.) -/
import Derived.Test.YtfoncmeplofedafDrawsX
import Derived.Test.YtfoncmeplofedafShQ
import Derived.Test.YtfoncmeplofedafShI
import Derived.Test.YtfoncmeplofedafShV
import Derived.Test.YtfoncmeplofedafLikeSh
import Derived.Test.YtfoncmeplofedafQueN
import Derived.Test.YtfoncmeplofedafPick
import Derived.Test.YtfoncmeplofedafArgs
namespace Go.Proofs.Ytfoncmeplofedaf.fnSweeps
open Go.ChangeShapes Go.WideShapes Go.ChangeAt Go.RowKit
set_option linter.unusedVariables false
set_option linter.unusedSimpArgs false
theorem smI_big {l : List It} (h : SmI l 9) : ∀ p ∈ l, p.2.1.size ≤ 1048576 := fun p hp => Nat.le_trans (h p hp) (by decide)
theorem swept_in {r : Int} {l : List It} {round : Int} {ms : List Int} (h : 0 ≤ (sweptT r l round ms).2) : ∀ p ∈ l, -9223372036854775808 ≤ p.1 ∧ p.1 ≤ 9223372036854775807 := fun p hp => by
  have h1 := (swept_cases h).1
  have h2 := ((storeB_iff.1 (shelfB_iff.1 h1).2.1).2.1 (itB p) (List.mem_map_of_mem hp)).2
  have h3 := digest_in p.2.1
  have h4 : p.1 = digest p.2.1 := h2
  rw [h4]
  omega
theorem smI_sweptT {r n : Int} {l : List It} {ms : List Int} (h : SmI l 9) : SmI (sweptT r l n ms).1.2 9 := by
  unfold sweptT
  split
  · split
    · exact h
    · exact smI_swept h
  · exact fun p hp => by cases hp
set_option maxHeartbeats 16000000 in
set_option maxRecDepth 100000 in
theorem walk (va : Value) (bs : List Int) (w : World) (ha : Rd w va (cellsByteS bs)) (hz : Bytes bs) (hn : bs.length ≤ 9223372036854775807) :
    Calls Try.prog 4 #[va] w fun e w' => e = .returned (.bool true) ∧ Below w.heap.size w w' := by
  have hla : (cellsByteS bs).length = bs.length := by simp
  obtain ⟨ao, cap, hval, hcap, _⟩ := id ha
  rw [hla] at hval hcap
  by_cases hbig : bs.length ≤ 4096
  rotate_left
  focus
    subst hval
    have hbI : (4096 : Int) < (bs.length : Int) := by omega
    have hbg : Calls Try.prog 5 #[.slice ao bs.length cap] w fun e w' => e = .returned (.bool true) ∧ w' = w := by
      clear ha hz
      go_enter Try.func5, Try.ntmps5
      go_wp2
      go_ret
      exact ⟨by first | rfl | (congr 1; simp; omega), rfl⟩
    clear ha hz
    go_enter Try.func4, Try.ntmps4
    go_wp2_with fail
    refine hbg.mono ?_
    rintro e w1 ⟨rfl, rfl⟩
    go_wp2
    go_ret
    exact ⟨rfl, Below.refl _ _⟩
  have hbI : ¬ (4096 : Int) < (bs.length : Int) := by omega
  have hbg : Calls Try.prog 5 #[.slice ao bs.length cap] w fun e w' => e = .returned (.bool false) ∧ w' = w := by
    clear ha hz
    go_enter Try.func5, Try.ntmps5
    go_wp2
    go_ret
    exact ⟨by first | rfl | (congr 1; simp; omega), rfl⟩
  subst hval
  have HPK := Lib.hid (fun (seed n : Int) (W : World) (h : Below w.heap.size w W) (h0 : 0 ≤ seed) (h1 : seed ≤ 1000000) (hn : 0 < n) (hn2 : n ≤ 4611686018427387903) => pick_any (.slice ao bs.length cap) bs seed n W (rd_below ha h) hbig (bytes_get hz) h0 h1 hn hn2)
  have HSW := Lib.hid (fun (W : World) (r' n : Int) (v vm : Value) (L : List It) (M : List Int) (h : RdG itf 5 W v L) (hm : Rd W vm (cellsInt64S M)) (hL : L.length ≤ 12) (hs : SmI L 9) (hM : M.length ≤ 6) (hMi : ∀ d ∈ M, -9223372036854775808 ≤ d ∧ d ≤ 9223372036854775807) => implSwept_any r' v L n vm M W h hm hMi (by omega) (by omega) (smI_big hs))
  have hdr := drawSwept_any (.slice ao bs.length cap) bs w ha hbig hz
  clear hz ha hbI hn
  go_enter Try.func4, Try.ntmps4
  go_wp2_with fail
  refine hbg.mono ?_
  rintro e w0 ⟨rfl, hw0⟩
  replace hw0 := hw0.symm
  subst hw0
  clear hbg
  go_wp2_with fail
  refine hdr.mono ?_
  rintro e w1 ⟨r, u, l, round, vm, ms, rfl, han, hrd, ⟨hm5, hmi⟩, hoS_1, hoV_1, hB_1⟩
  have hs1 := hB_1.size
  obtain ⟨aoS, acS, hvS⟩ := ownG_shape hoS_1
  obtain ⟨aoV, acV, hvV⟩ := owns_slice hoV_1
  subst hvS
  subst hvV
  have hl12 : l.length ≤ 12 := han.2.1
  have hsm := Lib.hid han.2.2.1
  have hmi2 : ∀ d ∈ ms, -9223372036854775808 ≤ d ∧ d ≤ 9223372036854775807 := fun d hd => hmi d hd
  have HMI := Lib.hid hmi2
  have HLI := Lib.hid (fun h => swept_in (r := r) (l := l) (round := round) (ms := ms) h)
  have hvS := hoS_1.lt
  have hvV := hoV_1.lt
  clear hdr han hmi hmi2
  have hB_1a : Below w.heap.size w (w1.alloc (.cells #[.int .i64 r, .slice aoS l.length acS] 33)) := hB_1.alloc hB_1.size _
  have hoS_1a := hoS_1.alloc (.cells #[.int .i64 r, .slice aoS l.length acS] 33)
  have hoV_1a := hoV_1.alloc (.cells #[.int .i64 r, .slice aoS l.length acS] 33)
  clear hB_1 hoS_1 hoV_1
  have hxS_1a : (w1.alloc (.cells #[.int .i64 r, .slice aoS l.length acS] 33)).heap[w1.heap.size]? = _ := heap_alloc_new w1 _
  have hlS_1a : w1.heap.size < (w1.alloc (.cells #[.int .i64 r, .slice aoS l.length acS] 33)).heap.size := by rw [World.size_alloc]; omega
  have kS0_1a : (w1.alloc (.cells #[.int .i64 r, .slice aoS l.length acS] 33)).cell? ⟨w1.heap.size, 0, none⟩ = some _ := cell_of_row (w1.alloc (.cells #[.int .i64 r, .slice aoS l.length acS] 33)) (w1.heap.size) 0 _ _ (0, 0) hxS_1a
  have kS1_1a : (w1.alloc (.cells #[.int .i64 r, .slice aoS l.length acS] 33)).cell? ⟨w1.heap.size, 1, none⟩ = some _ := cell_of_row (w1.alloc (.cells #[.int .i64 r, .slice aoS l.length acS] 33)) (w1.heap.size) 1 _ _ (0, 0) hxS_1a
  try simp only [List.getElem?_toArray, List.getElem?_cons_zero, List.getElem?_cons_succ] at kS0_1a kS1_1a
  have hsw1 := HSW.out (w1.alloc (.cells #[.int .i64 r, .slice aoS l.length acS] 33)) r round _ _ l ms (rdG_owns itW hoS_1a) (rd_owns hoV_1a) hl12 hsm.out (by omega) HMI.out
  have hsw2 := fun (W : World) (v vm : Value) (h : RdG itf 5 W v l) (hm : Rd W vm (cellsInt64S ms)) => specSwept_any r v l round vm ms W h hm (by omega) (by omega) (smI_big hsm.out)
  have HSX := Lib.hid (fun (W : World) (r' n : Int) (v vm : Value) (L : List It) (M : List Int) (h : RdG itf 5 W v L) (hm : Rd W vm (cellsInt64S M)) (hL : L.length ≤ 12) (hs : SmI L 9) (hM : M.length ≤ 6) (hMi : ∀ d ∈ M, -9223372036854775808 ≤ d ∧ d ≤ 9223372036854775807) => (HSW.out W r' n v vm L M h hm hL hs hM hMi).mono (fun e w9 (h9 : ∃ v, e = .returned (.tuple #[.agg #[.int .i64 (sweptT r' L n M).1.1, v], .int .i64 (sweptT r' L n M).2]) ∧ OwnI w9 W.heap.size v (sweptT r' L n M).1.2 ∧ Below W.heap.size W w9) => (by obtain ⟨v, he, ho, hb⟩ := h9; obtain ⟨o, c, hv⟩ := ownG_shape ho; subst hv; exact ⟨_, _, _, _, he, hb⟩ : ∃ A o m c, e = .returned (.tuple #[.agg #[.int .i64 A, .slice o m c], .int .i64 (sweptT r' L n M).2]) ∧ Below W.heap.size W w9)))
  have HQ0 := Lib.hid (fun h => swept_early (r := r) (l := l) (round := round) (ms := ms) h)
  have HQ1 := Lib.hid (fun h => swept_none (r := r) (l := l) (round := round) (ms := ms) h)
  have HQ2 := Lib.hid (fun d h => swept_more (r := r) (l := l) (round := round) (ms := ms) d h)
  have HQ3 := Lib.hid (fun h => swept_again (r := r) (l := l) (round := round) (ms := ms) h)
  have hsm1 := Lib.hid (smI_sweptT (r := r) (n := round) (ms := ms) hsm.out)
  have hlen1 : (sweptT r l round ms).1.2.length ≤ l.length := sweptT_le r l round ms
  have hrng := sweptT_rng r l round ms
  obtain ⟨R1, hR1⟩ : ∃ z, z = (sweptT r l round ms).1.1 := ⟨_, rfl⟩
  obtain ⟨R2, hR2⟩ : ∃ z, z = (sweptT r l round ms).1.2 := ⟨_, rfl⟩
  obtain ⟨R3, hR3⟩ : ∃ z, z = (sweptT r l round ms).2 := ⟨_, rfl⟩
  have HR := Lib.hid (And.intro hR1 (And.intro hR2 hR3))
  rw [← hR1, ← hR2, ← hR3] at hsw1
  simp only [← hR1, ← hR2, ← hR3] at hsw2 HQ0 HQ1 HQ2 HQ3 HLI
  rw [← hR2] at hsm1 hlen1
  rw [← hR3] at hrng
  clear hR1 hR2 hR3
  go_wp2_with fail
  refine (hsw1).mono ?_
  rintro e w2 ⟨vX, rfl, hoX_2, hb2⟩
  have hB_2 := hB_1a.trans (hb2.mono hB_1a.size)
  have hs2 := hb2.size
  try rw [World.size_alloc] at hs2
  have hoS_2 := owns_below hoS_1a hb2
  have hoV_2 := owns_below hoV_1a hb2
  have hxS_2 := (hb2.block (w1.heap.size) hlS_1a).trans hxS_1a
  have hlS_2 := Nat.lt_of_lt_of_le hlS_1a hb2.size
  clear hB_1a hoS_1a hoV_1a hxS_1a hlS_1a kS0_1a kS1_1a hb2
  obtain ⟨aoX, acX, hvX⟩ := ownG_shape hoX_2
  subst hvX
  have hvX := hoX_2.lt
  try simp only [World.size_alloc] at hvX
  have kS0_2 : (w2).cell? ⟨w1.heap.size, 0, none⟩ = some _ := cell_of_row (w2) (w1.heap.size) 0 _ _ (0, 0) hxS_2
  have kS1_2 : (w2).cell? ⟨w1.heap.size, 1, none⟩ = some _ := cell_of_row (w2) (w1.heap.size) 1 _ _ (0, 0) hxS_2
  try simp only [List.getElem?_toArray, List.getElem?_cons_zero, List.getElem?_cons_succ] at kS0_2 kS1_2
  clear hsw1
  have hB_2a : Below w.heap.size w (w2.alloc (.cells #[.int .i64 R1, .slice aoX R2.length acX] 33)) := hB_2.alloc hB_2.size _
  have hoS_2a := hoS_2.alloc (.cells #[.int .i64 R1, .slice aoX R2.length acX] 33)
  have hoV_2a := hoV_2.alloc (.cells #[.int .i64 R1, .slice aoX R2.length acX] 33)
  have hoX_2a := hoX_2.alloc (.cells #[.int .i64 R1, .slice aoX R2.length acX] 33)
  have hxS_2a : (w2.alloc (.cells #[.int .i64 R1, .slice aoX R2.length acX] 33)).heap[w1.heap.size]? = _ := (heap_alloc_old w2 _ hlS_2).trans hxS_2
  have hlS_2a : w1.heap.size < (w2.alloc (.cells #[.int .i64 R1, .slice aoX R2.length acX] 33)).heap.size := by rw [World.size_alloc]; omega
  clear hB_2 hoS_2 hoV_2 hoX_2 hxS_2 hlS_2 kS0_2 kS1_2
  have hxX_2a : (w2.alloc (.cells #[.int .i64 R1, .slice aoX R2.length acX] 33)).heap[w2.heap.size]? = _ := heap_alloc_new w2 _
  have hlX_2a : w2.heap.size < (w2.alloc (.cells #[.int .i64 R1, .slice aoX R2.length acX] 33)).heap.size := by rw [World.size_alloc]; omega
  have kS0_2a : (w2.alloc (.cells #[.int .i64 R1, .slice aoX R2.length acX] 33)).cell? ⟨w1.heap.size, 0, none⟩ = some _ := cell_of_row (w2.alloc (.cells #[.int .i64 R1, .slice aoX R2.length acX] 33)) (w1.heap.size) 0 _ _ (0, 0) hxS_2a
  have kS1_2a : (w2.alloc (.cells #[.int .i64 R1, .slice aoX R2.length acX] 33)).cell? ⟨w1.heap.size, 1, none⟩ = some _ := cell_of_row (w2.alloc (.cells #[.int .i64 R1, .slice aoX R2.length acX] 33)) (w1.heap.size) 1 _ _ (0, 0) hxS_2a
  have kX0_2a : (w2.alloc (.cells #[.int .i64 R1, .slice aoX R2.length acX] 33)).cell? ⟨w2.heap.size, 0, none⟩ = some _ := cell_of_row (w2.alloc (.cells #[.int .i64 R1, .slice aoX R2.length acX] 33)) (w2.heap.size) 0 _ _ (0, 0) hxX_2a
  have kX1_2a : (w2.alloc (.cells #[.int .i64 R1, .slice aoX R2.length acX] 33)).cell? ⟨w2.heap.size, 1, none⟩ = some _ := cell_of_row (w2.alloc (.cells #[.int .i64 R1, .slice aoX R2.length acX] 33)) (w2.heap.size) 1 _ _ (0, 0) hxX_2a
  try simp only [List.getElem?_toArray, List.getElem?_cons_zero, List.getElem?_cons_succ] at kS0_2a kS1_2a kX0_2a kX1_2a
  go_wp2_with fail
  refine (hsw2 (w2.alloc (.cells #[.int .i64 R1, .slice aoX R2.length acX] 33)) _ _ (rdG_owns itW hoS_2a) (rd_owns hoV_2a)).mono ?_
  rintro e w3 ⟨vY, rfl, hoY_3, hb3⟩
  have hB_3 := hB_2a.trans (hb3.mono hB_2a.size)
  have hs3 := hb3.size
  try rw [World.size_alloc] at hs3
  have hoS_3 := owns_below hoS_2a hb3
  have hoV_3 := owns_below hoV_2a hb3
  have hoX_3 := owns_below hoX_2a hb3
  have hxS_3 := (hb3.block (w1.heap.size) hlS_2a).trans hxS_2a
  have hlS_3 := Nat.lt_of_lt_of_le hlS_2a hb3.size
  have hxX_3 := (hb3.block (w2.heap.size) hlX_2a).trans hxX_2a
  have hlX_3 := Nat.lt_of_lt_of_le hlX_2a hb3.size
  clear hB_2a hoS_2a hoV_2a hoX_2a hxS_2a hlS_2a kS0_2a kS1_2a hxX_2a hlX_2a kX0_2a kX1_2a hb3
  obtain ⟨aoY, acY, hvY⟩ := ownG_shape hoY_3
  subst hvY
  have hvY := hoY_3.lt
  try simp only [World.size_alloc] at hvY
  have kS0_3 : (w3).cell? ⟨w1.heap.size, 0, none⟩ = some _ := cell_of_row (w3) (w1.heap.size) 0 _ _ (0, 0) hxS_3
  have kS1_3 : (w3).cell? ⟨w1.heap.size, 1, none⟩ = some _ := cell_of_row (w3) (w1.heap.size) 1 _ _ (0, 0) hxS_3
  have kX0_3 : (w3).cell? ⟨w2.heap.size, 0, none⟩ = some _ := cell_of_row (w3) (w2.heap.size) 0 _ _ (0, 0) hxX_3
  have kX1_3 : (w3).cell? ⟨w2.heap.size, 1, none⟩ = some _ := cell_of_row (w3) (w2.heap.size) 1 _ _ (0, 0) hxX_3
  try simp only [List.getElem?_toArray, List.getElem?_cons_zero, List.getElem?_cons_succ] at kS0_3 kS1_3 kX0_3 kX1_3
  clear hsw2
  have hB_3a : Below w.heap.size w (w3.alloc (.cells #[.int .i64 R1, .slice aoY R2.length acY] 33)) := hB_3.alloc hB_3.size _
  have hoS_3a := hoS_3.alloc (.cells #[.int .i64 R1, .slice aoY R2.length acY] 33)
  have hoV_3a := hoV_3.alloc (.cells #[.int .i64 R1, .slice aoY R2.length acY] 33)
  have hoX_3a := hoX_3.alloc (.cells #[.int .i64 R1, .slice aoY R2.length acY] 33)
  have hoY_3a := hoY_3.alloc (.cells #[.int .i64 R1, .slice aoY R2.length acY] 33)
  have hxS_3a : (w3.alloc (.cells #[.int .i64 R1, .slice aoY R2.length acY] 33)).heap[w1.heap.size]? = _ := (heap_alloc_old w3 _ hlS_3).trans hxS_3
  have hlS_3a : w1.heap.size < (w3.alloc (.cells #[.int .i64 R1, .slice aoY R2.length acY] 33)).heap.size := by rw [World.size_alloc]; omega
  have hxX_3a : (w3.alloc (.cells #[.int .i64 R1, .slice aoY R2.length acY] 33)).heap[w2.heap.size]? = _ := (heap_alloc_old w3 _ hlX_3).trans hxX_3
  have hlX_3a : w2.heap.size < (w3.alloc (.cells #[.int .i64 R1, .slice aoY R2.length acY] 33)).heap.size := by rw [World.size_alloc]; omega
  clear hB_3 hoS_3 hoV_3 hoX_3 hoY_3 hxS_3 hlS_3 kS0_3 kS1_3 hxX_3 hlX_3 kX0_3 kX1_3
  have hxY_3a : (w3.alloc (.cells #[.int .i64 R1, .slice aoY R2.length acY] 33)).heap[w3.heap.size]? = _ := heap_alloc_new w3 _
  have hlY_3a : w3.heap.size < (w3.alloc (.cells #[.int .i64 R1, .slice aoY R2.length acY] 33)).heap.size := by rw [World.size_alloc]; omega
  have kS0_3a : (w3.alloc (.cells #[.int .i64 R1, .slice aoY R2.length acY] 33)).cell? ⟨w1.heap.size, 0, none⟩ = some _ := cell_of_row (w3.alloc (.cells #[.int .i64 R1, .slice aoY R2.length acY] 33)) (w1.heap.size) 0 _ _ (0, 0) hxS_3a
  have kS1_3a : (w3.alloc (.cells #[.int .i64 R1, .slice aoY R2.length acY] 33)).cell? ⟨w1.heap.size, 1, none⟩ = some _ := cell_of_row (w3.alloc (.cells #[.int .i64 R1, .slice aoY R2.length acY] 33)) (w1.heap.size) 1 _ _ (0, 0) hxS_3a
  have kX0_3a : (w3.alloc (.cells #[.int .i64 R1, .slice aoY R2.length acY] 33)).cell? ⟨w2.heap.size, 0, none⟩ = some _ := cell_of_row (w3.alloc (.cells #[.int .i64 R1, .slice aoY R2.length acY] 33)) (w2.heap.size) 0 _ _ (0, 0) hxX_3a
  have kX1_3a : (w3.alloc (.cells #[.int .i64 R1, .slice aoY R2.length acY] 33)).cell? ⟨w2.heap.size, 1, none⟩ = some _ := cell_of_row (w3.alloc (.cells #[.int .i64 R1, .slice aoY R2.length acY] 33)) (w2.heap.size) 1 _ _ (0, 0) hxX_3a
  have kY0_3a : (w3.alloc (.cells #[.int .i64 R1, .slice aoY R2.length acY] 33)).cell? ⟨w3.heap.size, 0, none⟩ = some _ := cell_of_row (w3.alloc (.cells #[.int .i64 R1, .slice aoY R2.length acY] 33)) (w3.heap.size) 0 _ _ (0, 0) hxY_3a
  have kY1_3a : (w3.alloc (.cells #[.int .i64 R1, .slice aoY R2.length acY] 33)).cell? ⟨w3.heap.size, 1, none⟩ = some _ := cell_of_row (w3.alloc (.cells #[.int .i64 R1, .slice aoY R2.length acY] 33)) (w3.heap.size) 1 _ _ (0, 0) hxY_3a
  try simp only [List.getElem?_toArray, List.getElem?_cons_zero, List.getElem?_cons_succ] at kS0_3a kS1_3a kX0_3a kX1_3a kY0_3a kY1_3a
  have hzz : (R3 != R3) = false := by simp
  go_wp2_with fail
  refine (likeShelf_same R1 (.slice aoX R2.length acX) (.slice aoY R2.length acY) R2 (w3.alloc (.cells #[.int .i64 R1, .slice aoY R2.length acY] 33)) (rdG_owns itW hoX_3a) (rdG_owns itW hoY_3a) (by omega)).mono ?_
  rintro e w4 ⟨rfl, hb4⟩
  have hB_4 := hB_3a.trans (hb4.mono hB_3a.size)
  have hs4 := hb4.size
  try rw [World.size_alloc] at hs4
  have hoS_4 := owns_below hoS_3a hb4
  have hoV_4 := owns_below hoV_3a hb4
  have hoX_4 := owns_below hoX_3a hb4
  have hoY_4 := owns_below hoY_3a hb4
  have hxS_4 := (hb4.block (w1.heap.size) hlS_3a).trans hxS_3a
  have hlS_4 := Nat.lt_of_lt_of_le hlS_3a hb4.size
  have hxX_4 := (hb4.block (w2.heap.size) hlX_3a).trans hxX_3a
  have hlX_4 := Nat.lt_of_lt_of_le hlX_3a hb4.size
  have hxY_4 := (hb4.block (w3.heap.size) hlY_3a).trans hxY_3a
  have hlY_4 := Nat.lt_of_lt_of_le hlY_3a hb4.size
  clear hB_3a hoS_3a hoV_3a hoX_3a hoY_3a hxS_3a hlS_3a kS0_3a kS1_3a hxX_3a hlX_3a kX0_3a kX1_3a hxY_3a hlY_3a kY0_3a kY1_3a hb4
  have kS0_4 : (w4).cell? ⟨w1.heap.size, 0, none⟩ = some _ := cell_of_row (w4) (w1.heap.size) 0 _ _ (0, 0) hxS_4
  have kS1_4 : (w4).cell? ⟨w1.heap.size, 1, none⟩ = some _ := cell_of_row (w4) (w1.heap.size) 1 _ _ (0, 0) hxS_4
  have kX0_4 : (w4).cell? ⟨w2.heap.size, 0, none⟩ = some _ := cell_of_row (w4) (w2.heap.size) 0 _ _ (0, 0) hxX_4
  have kX1_4 : (w4).cell? ⟨w2.heap.size, 1, none⟩ = some _ := cell_of_row (w4) (w2.heap.size) 1 _ _ (0, 0) hxX_4
  have kY0_4 : (w4).cell? ⟨w3.heap.size, 0, none⟩ = some _ := cell_of_row (w4) (w3.heap.size) 0 _ _ (0, 0) hxY_4
  have kY1_4 : (w4).cell? ⟨w3.heap.size, 1, none⟩ = some _ := cell_of_row (w4) (w3.heap.size) 1 _ _ (0, 0) hxY_4
  try simp only [List.getElem?_toArray, List.getElem?_cons_zero, List.getElem?_cons_succ] at kS0_4 kS1_4 kX0_4 kX1_4 kY0_4 kY1_4
  by_cases hneg : R3 < 0
  · have HB := Lib.hid hB_4
    clear hzz HQ0 HQ1 HQ2 HQ3 HPK HSW HSX HLI
    go_wp2
    go_ret
    exact ⟨rfl, HB.out⟩
  have hpos : 0 ≤ R3 := by omega
  have q0 := HQ0.out hpos
  have q1 := HQ1.out hpos
  have q2 := Lib.hid (fun d => HQ2.out d hpos)
  have q3 := HQ3.out hpos
  have hli := Lib.hid (HLI.out hpos)
  clear HQ0 HQ1 HQ2 HQ3 HLI hzz
  have hlit : (w4.alloc (.cells #[] 2)).ownsRow w4.heap.size 2 1 (.slice (some ⟨w4.heap.size, 0, none⟩) 0 0) ([] : List Int).length (cellsInt64S []) := World.ownsRow_lit (base := w4.heap.size) (e := 2) (size := 1) w4 #[] 0 (Nat.le_refl _) (Nat.zero_le _) rfl
  have hal : Below w4.heap.size w4 (w4.alloc (.cells #[] 2)) := (Below.refl _ _).alloc (Nat.le_refl _) _
  have hrV := rd_below (rd_owns hoV_4) hal
  go_wp2_with (at_builtin; refine own_step rfl _ _ rfl w4.heap.size (.slice (some ⟨w4.heap.size, 0, none⟩) 0 0) _ [] ms rfl rfl hlit hrV (by simp; omega) hal.size ?_)
  intro vM w5 hoM0 hgM hiM
  have hb5 : Below w4.heap.size w4 w5 := hal.grown hgM hal.size (fun q hq => by cases hq; exact Nat.le_refl _)
  have hoM_5 : w5.ownsRow w4.heap.size 2 1 vM ms.length (cellsInt64S ms) := by simpa using hoM0
  have hMb : (w4).heap.size ≤ w5.heap.size := hb5.size
  have hT0 : w.heap.size ≤ (w4).heap.size := hB_4.size
  have hB_5 := hB_4.trans (hb5.mono hB_4.size)
  have hs5 := hb5.size
  try rw [World.size_alloc] at hs5
  have hoS_5 := owns_below hoS_4 hb5
  have hoV_5 := owns_below hoV_4 hb5
  have hoX_5 := owns_below hoX_4 hb5
  have hoY_5 := owns_below hoY_4 hb5
  have hxS_5 := (hb5.block (w1.heap.size) hlS_4).trans hxS_4
  have hlS_5 := Nat.lt_of_lt_of_le hlS_4 hb5.size
  have hxX_5 := (hb5.block (w2.heap.size) hlX_4).trans hxX_4
  have hlX_5 := Nat.lt_of_lt_of_le hlX_4 hb5.size
  have hxY_5 := (hb5.block (w3.heap.size) hlY_4).trans hxY_4
  have hlY_5 := Nat.lt_of_lt_of_le hlY_4 hb5.size
  clear hB_4 hoS_4 hoV_4 hoX_4 hoY_4 hxS_4 hlS_4 kS0_4 kS1_4 hxX_4 hlX_4 kX0_4 kX1_4 hxY_4 hlY_4 kY0_4 kY1_4 hb5 hlit hal hrV hgM hiM hoM0
  obtain ⟨aoM, acM, hvM0⟩ := owns_slice hoM_5
  subst hvM0
  have hvM := hoM_5.lt
  have kS0_5 : (w5).cell? ⟨w1.heap.size, 0, none⟩ = some _ := cell_of_row (w5) (w1.heap.size) 0 _ _ (0, 0) hxS_5
  have kS1_5 : (w5).cell? ⟨w1.heap.size, 1, none⟩ = some _ := cell_of_row (w5) (w1.heap.size) 1 _ _ (0, 0) hxS_5
  have kX0_5 : (w5).cell? ⟨w2.heap.size, 0, none⟩ = some _ := cell_of_row (w5) (w2.heap.size) 0 _ _ (0, 0) hxX_5
  have kX1_5 : (w5).cell? ⟨w2.heap.size, 1, none⟩ = some _ := cell_of_row (w5) (w2.heap.size) 1 _ _ (0, 0) hxX_5
  have kY0_5 : (w5).cell? ⟨w3.heap.size, 0, none⟩ = some _ := cell_of_row (w5) (w3.heap.size) 0 _ _ (0, 0) hxY_5
  have kY1_5 : (w5).cell? ⟨w3.heap.size, 1, none⟩ = some _ := cell_of_row (w5) (w3.heap.size) 1 _ _ (0, 0) hxY_5
  try simp only [List.getElem?_toArray, List.getElem?_cons_zero, List.getElem?_cons_succ] at kS0_5 kS1_5 kX0_5 kX1_5 kY0_5 kY1_5
  by_cases hlN : (0 : Int) < (l.length : Int)
  rotate_left
  · skip
    clear hneg
    obtain ⟨z1, hz1⟩ : ∃ z, z = (sweptT r l round ms).2 := ⟨_, rfl⟩
    have hsw := HSX.out (w5) r round _ (.slice aoM ms.length acM) l ms (rdG_owns itW hoS_5) (rd_owns hoM_5) hl12 hsm.out (by omega) HMI.out
    rw [← hz1] at hsw
    have Hz1 := Lib.hid hz1
    clear hz1
    go_wp2_with fail
    refine (hsw).mono ?_
    rintro e w6 ⟨AL, oL, mL, cL, rfl, hb6⟩
    have hB_6 := hB_5.trans (hb6.mono hB_5.size)
    have hs6 := hb6.size
    try rw [World.size_alloc] at hs6
    have hoS_6 := owns_below hoS_5 hb6
    have hoV_6 := owns_below hoV_5 hb6
    have hoX_6 := owns_below hoX_5 hb6
    have hoY_6 := owns_below hoY_5 hb6
    have hoM_6 := owns_below hoM_5 hb6
    have hxS_6 := (hb6.block (w1.heap.size) hlS_5).trans hxS_5
    have hlS_6 := Nat.lt_of_lt_of_le hlS_5 hb6.size
    have hxX_6 := (hb6.block (w2.heap.size) hlX_5).trans hxX_5
    have hlX_6 := Nat.lt_of_lt_of_le hlX_5 hb6.size
    have hxY_6 := (hb6.block (w3.heap.size) hlY_5).trans hxY_5
    have hlY_6 := Nat.lt_of_lt_of_le hlY_5 hb6.size
    clear hB_5 hoS_5 hoV_5 hoX_5 hoY_5 hoM_5 hxS_5 hlS_5 kS0_5 kS1_5 hxX_5 hlX_5 kX0_5 kX1_5 hxY_5 hlY_5 kY0_5 kY1_5 hb6
    have kS0_6 : (w6).cell? ⟨w1.heap.size, 0, none⟩ = some _ := cell_of_row (w6) (w1.heap.size) 0 _ _ (0, 0) hxS_6
    have kS1_6 : (w6).cell? ⟨w1.heap.size, 1, none⟩ = some _ := cell_of_row (w6) (w1.heap.size) 1 _ _ (0, 0) hxS_6
    have kX0_6 : (w6).cell? ⟨w2.heap.size, 0, none⟩ = some _ := cell_of_row (w6) (w2.heap.size) 0 _ _ (0, 0) hxX_6
    have kX1_6 : (w6).cell? ⟨w2.heap.size, 1, none⟩ = some _ := cell_of_row (w6) (w2.heap.size) 1 _ _ (0, 0) hxX_6
    have kY0_6 : (w6).cell? ⟨w3.heap.size, 0, none⟩ = some _ := cell_of_row (w6) (w3.heap.size) 0 _ _ (0, 0) hxY_6
    have kY1_6 : (w6).cell? ⟨w3.heap.size, 1, none⟩ = some _ := cell_of_row (w6) (w3.heap.size) 1 _ _ (0, 0) hxY_6
    try simp only [List.getElem?_toArray, List.getElem?_cons_zero, List.getElem?_cons_succ] at kS0_6 kS1_6 kX0_6 kX1_6 kY0_6 kY1_6
    clear hsw
    have hB_6a : Below w.heap.size w (w6.alloc (.cells #[.int .i64 AL, .slice oL mL cL] 33)) := hB_6.alloc hB_6.size _
    have hoS_6a := hoS_6.alloc (.cells #[.int .i64 AL, .slice oL mL cL] 33)
    have hoV_6a := hoV_6.alloc (.cells #[.int .i64 AL, .slice oL mL cL] 33)
    have hoX_6a := hoX_6.alloc (.cells #[.int .i64 AL, .slice oL mL cL] 33)
    have hoY_6a := hoY_6.alloc (.cells #[.int .i64 AL, .slice oL mL cL] 33)
    have hoM_6a := hoM_6.alloc (.cells #[.int .i64 AL, .slice oL mL cL] 33)
    have hxS_6a : (w6.alloc (.cells #[.int .i64 AL, .slice oL mL cL] 33)).heap[w1.heap.size]? = _ := (heap_alloc_old w6 _ hlS_6).trans hxS_6
    have hlS_6a : w1.heap.size < (w6.alloc (.cells #[.int .i64 AL, .slice oL mL cL] 33)).heap.size := by rw [World.size_alloc]; omega
    have hxX_6a : (w6.alloc (.cells #[.int .i64 AL, .slice oL mL cL] 33)).heap[w2.heap.size]? = _ := (heap_alloc_old w6 _ hlX_6).trans hxX_6
    have hlX_6a : w2.heap.size < (w6.alloc (.cells #[.int .i64 AL, .slice oL mL cL] 33)).heap.size := by rw [World.size_alloc]; omega
    have hxY_6a : (w6.alloc (.cells #[.int .i64 AL, .slice oL mL cL] 33)).heap[w3.heap.size]? = _ := (heap_alloc_old w6 _ hlY_6).trans hxY_6
    have hlY_6a : w3.heap.size < (w6.alloc (.cells #[.int .i64 AL, .slice oL mL cL] 33)).heap.size := by rw [World.size_alloc]; omega
    clear hB_6 hoS_6 hoV_6 hoX_6 hoY_6 hoM_6 hxS_6 hlS_6 kS0_6 kS1_6 hxX_6 hlX_6 kX0_6 kX1_6 hxY_6 hlY_6 kY0_6 kY1_6
    have hxL_6a : (w6.alloc (.cells #[.int .i64 AL, .slice oL mL cL] 33)).heap[w6.heap.size]? = _ := heap_alloc_new w6 _
    have hlL_6a : w6.heap.size < (w6.alloc (.cells #[.int .i64 AL, .slice oL mL cL] 33)).heap.size := by rw [World.size_alloc]; omega
    have kS0_6a : (w6.alloc (.cells #[.int .i64 AL, .slice oL mL cL] 33)).cell? ⟨w1.heap.size, 0, none⟩ = some _ := cell_of_row (w6.alloc (.cells #[.int .i64 AL, .slice oL mL cL] 33)) (w1.heap.size) 0 _ _ (0, 0) hxS_6a
    have kS1_6a : (w6.alloc (.cells #[.int .i64 AL, .slice oL mL cL] 33)).cell? ⟨w1.heap.size, 1, none⟩ = some _ := cell_of_row (w6.alloc (.cells #[.int .i64 AL, .slice oL mL cL] 33)) (w1.heap.size) 1 _ _ (0, 0) hxS_6a
    have kX0_6a : (w6.alloc (.cells #[.int .i64 AL, .slice oL mL cL] 33)).cell? ⟨w2.heap.size, 0, none⟩ = some _ := cell_of_row (w6.alloc (.cells #[.int .i64 AL, .slice oL mL cL] 33)) (w2.heap.size) 0 _ _ (0, 0) hxX_6a
    have kX1_6a : (w6.alloc (.cells #[.int .i64 AL, .slice oL mL cL] 33)).cell? ⟨w2.heap.size, 1, none⟩ = some _ := cell_of_row (w6.alloc (.cells #[.int .i64 AL, .slice oL mL cL] 33)) (w2.heap.size) 1 _ _ (0, 0) hxX_6a
    have kY0_6a : (w6.alloc (.cells #[.int .i64 AL, .slice oL mL cL] 33)).cell? ⟨w3.heap.size, 0, none⟩ = some _ := cell_of_row (w6.alloc (.cells #[.int .i64 AL, .slice oL mL cL] 33)) (w3.heap.size) 0 _ _ (0, 0) hxY_6a
    have kY1_6a : (w6.alloc (.cells #[.int .i64 AL, .slice oL mL cL] 33)).cell? ⟨w3.heap.size, 1, none⟩ = some _ := cell_of_row (w6.alloc (.cells #[.int .i64 AL, .slice oL mL cL] 33)) (w3.heap.size) 1 _ _ (0, 0) hxY_6a
    have kL0_6a : (w6.alloc (.cells #[.int .i64 AL, .slice oL mL cL] 33)).cell? ⟨w6.heap.size, 0, none⟩ = some _ := cell_of_row (w6.alloc (.cells #[.int .i64 AL, .slice oL mL cL] 33)) (w6.heap.size) 0 _ _ (0, 0) hxL_6a
    have kL1_6a : (w6.alloc (.cells #[.int .i64 AL, .slice oL mL cL] 33)).cell? ⟨w6.heap.size, 1, none⟩ = some _ := cell_of_row (w6.alloc (.cells #[.int .i64 AL, .slice oL mL cL] 33)) (w6.heap.size) 1 _ _ (0, 0) hxL_6a
    try simp only [List.getElem?_toArray, List.getElem?_cons_zero, List.getElem?_cons_succ] at kS0_6a kS1_6a kX0_6a kX1_6a kY0_6a kY1_6a kL0_6a kL1_6a
    obtain ⟨z2, hz2⟩ : ∃ z, z = (sweptT R1 R2 round ms).2 := ⟨_, rfl⟩
    have hsw := HSX.out (w6.alloc (.cells #[.int .i64 AL, .slice oL mL cL] 33)) R1 round _ (.slice aoV ms.length acV) R2 ms (rdG_owns itW hoX_6a) (rd_owns hoV_6a) (by omega) hsm1.out (by omega) HMI.out
    rw [← hz2] at hsw
    have Hz2 := Lib.hid hz2
    clear hz2
    go_wp2_with fail
    refine (hsw).mono ?_
    rintro e w7 ⟨AA, oA, mA, cA, rfl, hb7⟩
    have hB_7 := hB_6a.trans (hb7.mono hB_6a.size)
    have hs7 := hb7.size
    try rw [World.size_alloc] at hs7
    have hoS_7 := owns_below hoS_6a hb7
    have hoV_7 := owns_below hoV_6a hb7
    have hoX_7 := owns_below hoX_6a hb7
    have hoY_7 := owns_below hoY_6a hb7
    have hoM_7 := owns_below hoM_6a hb7
    have hxS_7 := (hb7.block (w1.heap.size) hlS_6a).trans hxS_6a
    have hlS_7 := Nat.lt_of_lt_of_le hlS_6a hb7.size
    have hxX_7 := (hb7.block (w2.heap.size) hlX_6a).trans hxX_6a
    have hlX_7 := Nat.lt_of_lt_of_le hlX_6a hb7.size
    have hxY_7 := (hb7.block (w3.heap.size) hlY_6a).trans hxY_6a
    have hlY_7 := Nat.lt_of_lt_of_le hlY_6a hb7.size
    have hxL_7 := (hb7.block (w6.heap.size) hlL_6a).trans hxL_6a
    have hlL_7 := Nat.lt_of_lt_of_le hlL_6a hb7.size
    clear hB_6a hoS_6a hoV_6a hoX_6a hoY_6a hoM_6a hxS_6a hlS_6a kS0_6a kS1_6a hxX_6a hlX_6a kX0_6a kX1_6a hxY_6a hlY_6a kY0_6a kY1_6a hxL_6a hlL_6a kL0_6a kL1_6a hb7
    have kS0_7 : (w7).cell? ⟨w1.heap.size, 0, none⟩ = some _ := cell_of_row (w7) (w1.heap.size) 0 _ _ (0, 0) hxS_7
    have kS1_7 : (w7).cell? ⟨w1.heap.size, 1, none⟩ = some _ := cell_of_row (w7) (w1.heap.size) 1 _ _ (0, 0) hxS_7
    have kX0_7 : (w7).cell? ⟨w2.heap.size, 0, none⟩ = some _ := cell_of_row (w7) (w2.heap.size) 0 _ _ (0, 0) hxX_7
    have kX1_7 : (w7).cell? ⟨w2.heap.size, 1, none⟩ = some _ := cell_of_row (w7) (w2.heap.size) 1 _ _ (0, 0) hxX_7
    have kY0_7 : (w7).cell? ⟨w3.heap.size, 0, none⟩ = some _ := cell_of_row (w7) (w3.heap.size) 0 _ _ (0, 0) hxY_7
    have kY1_7 : (w7).cell? ⟨w3.heap.size, 1, none⟩ = some _ := cell_of_row (w7) (w3.heap.size) 1 _ _ (0, 0) hxY_7
    have kL0_7 : (w7).cell? ⟨w6.heap.size, 0, none⟩ = some _ := cell_of_row (w7) (w6.heap.size) 0 _ _ (0, 0) hxL_7
    have kL1_7 : (w7).cell? ⟨w6.heap.size, 1, none⟩ = some _ := cell_of_row (w7) (w6.heap.size) 1 _ _ (0, 0) hxL_7
    try simp only [List.getElem?_toArray, List.getElem?_cons_zero, List.getElem?_cons_succ] at kS0_7 kS1_7 kX0_7 kX1_7 kY0_7 kY1_7 kL0_7 kL1_7
    clear hsw
    have hB_7a : Below w.heap.size w (w7.alloc (.cells #[.int .i64 AA, .slice oA mA cA] 33)) := hB_7.alloc hB_7.size _
    have hoS_7a := hoS_7.alloc (.cells #[.int .i64 AA, .slice oA mA cA] 33)
    have hoV_7a := hoV_7.alloc (.cells #[.int .i64 AA, .slice oA mA cA] 33)
    have hoX_7a := hoX_7.alloc (.cells #[.int .i64 AA, .slice oA mA cA] 33)
    have hoY_7a := hoY_7.alloc (.cells #[.int .i64 AA, .slice oA mA cA] 33)
    have hoM_7a := hoM_7.alloc (.cells #[.int .i64 AA, .slice oA mA cA] 33)
    have hxS_7a : (w7.alloc (.cells #[.int .i64 AA, .slice oA mA cA] 33)).heap[w1.heap.size]? = _ := (heap_alloc_old w7 _ hlS_7).trans hxS_7
    have hlS_7a : w1.heap.size < (w7.alloc (.cells #[.int .i64 AA, .slice oA mA cA] 33)).heap.size := by rw [World.size_alloc]; omega
    have hxX_7a : (w7.alloc (.cells #[.int .i64 AA, .slice oA mA cA] 33)).heap[w2.heap.size]? = _ := (heap_alloc_old w7 _ hlX_7).trans hxX_7
    have hlX_7a : w2.heap.size < (w7.alloc (.cells #[.int .i64 AA, .slice oA mA cA] 33)).heap.size := by rw [World.size_alloc]; omega
    have hxY_7a : (w7.alloc (.cells #[.int .i64 AA, .slice oA mA cA] 33)).heap[w3.heap.size]? = _ := (heap_alloc_old w7 _ hlY_7).trans hxY_7
    have hlY_7a : w3.heap.size < (w7.alloc (.cells #[.int .i64 AA, .slice oA mA cA] 33)).heap.size := by rw [World.size_alloc]; omega
    have hxL_7a : (w7.alloc (.cells #[.int .i64 AA, .slice oA mA cA] 33)).heap[w6.heap.size]? = _ := (heap_alloc_old w7 _ hlL_7).trans hxL_7
    have hlL_7a : w6.heap.size < (w7.alloc (.cells #[.int .i64 AA, .slice oA mA cA] 33)).heap.size := by rw [World.size_alloc]; omega
    clear hB_7 hoS_7 hoV_7 hoX_7 hoY_7 hoM_7 hxS_7 hlS_7 kS0_7 kS1_7 hxX_7 hlX_7 kX0_7 kX1_7 hxY_7 hlY_7 kY0_7 kY1_7 hxL_7 hlL_7 kL0_7 kL1_7
    have hxA_7a : (w7.alloc (.cells #[.int .i64 AA, .slice oA mA cA] 33)).heap[w7.heap.size]? = _ := heap_alloc_new w7 _
    have hlA_7a : w7.heap.size < (w7.alloc (.cells #[.int .i64 AA, .slice oA mA cA] 33)).heap.size := by rw [World.size_alloc]; omega
    have kS0_7a : (w7.alloc (.cells #[.int .i64 AA, .slice oA mA cA] 33)).cell? ⟨w1.heap.size, 0, none⟩ = some _ := cell_of_row (w7.alloc (.cells #[.int .i64 AA, .slice oA mA cA] 33)) (w1.heap.size) 0 _ _ (0, 0) hxS_7a
    have kS1_7a : (w7.alloc (.cells #[.int .i64 AA, .slice oA mA cA] 33)).cell? ⟨w1.heap.size, 1, none⟩ = some _ := cell_of_row (w7.alloc (.cells #[.int .i64 AA, .slice oA mA cA] 33)) (w1.heap.size) 1 _ _ (0, 0) hxS_7a
    have kX0_7a : (w7.alloc (.cells #[.int .i64 AA, .slice oA mA cA] 33)).cell? ⟨w2.heap.size, 0, none⟩ = some _ := cell_of_row (w7.alloc (.cells #[.int .i64 AA, .slice oA mA cA] 33)) (w2.heap.size) 0 _ _ (0, 0) hxX_7a
    have kX1_7a : (w7.alloc (.cells #[.int .i64 AA, .slice oA mA cA] 33)).cell? ⟨w2.heap.size, 1, none⟩ = some _ := cell_of_row (w7.alloc (.cells #[.int .i64 AA, .slice oA mA cA] 33)) (w2.heap.size) 1 _ _ (0, 0) hxX_7a
    have kY0_7a : (w7.alloc (.cells #[.int .i64 AA, .slice oA mA cA] 33)).cell? ⟨w3.heap.size, 0, none⟩ = some _ := cell_of_row (w7.alloc (.cells #[.int .i64 AA, .slice oA mA cA] 33)) (w3.heap.size) 0 _ _ (0, 0) hxY_7a
    have kY1_7a : (w7.alloc (.cells #[.int .i64 AA, .slice oA mA cA] 33)).cell? ⟨w3.heap.size, 1, none⟩ = some _ := cell_of_row (w7.alloc (.cells #[.int .i64 AA, .slice oA mA cA] 33)) (w3.heap.size) 1 _ _ (0, 0) hxY_7a
    have kL0_7a : (w7.alloc (.cells #[.int .i64 AA, .slice oA mA cA] 33)).cell? ⟨w6.heap.size, 0, none⟩ = some _ := cell_of_row (w7.alloc (.cells #[.int .i64 AA, .slice oA mA cA] 33)) (w6.heap.size) 0 _ _ (0, 0) hxL_7a
    have kL1_7a : (w7.alloc (.cells #[.int .i64 AA, .slice oA mA cA] 33)).cell? ⟨w6.heap.size, 1, none⟩ = some _ := cell_of_row (w7.alloc (.cells #[.int .i64 AA, .slice oA mA cA] 33)) (w6.heap.size) 1 _ _ (0, 0) hxL_7a
    have kA0_7a : (w7.alloc (.cells #[.int .i64 AA, .slice oA mA cA] 33)).cell? ⟨w7.heap.size, 0, none⟩ = some _ := cell_of_row (w7.alloc (.cells #[.int .i64 AA, .slice oA mA cA] 33)) (w7.heap.size) 0 _ _ (0, 0) hxA_7a
    have kA1_7a : (w7.alloc (.cells #[.int .i64 AA, .slice oA mA cA] 33)).cell? ⟨w7.heap.size, 1, none⟩ = some _ := cell_of_row (w7.alloc (.cells #[.int .i64 AA, .slice oA mA cA] 33)) (w7.heap.size) 1 _ _ (0, 0) hxA_7a
    try simp only [List.getElem?_toArray, List.getElem?_cons_zero, List.getElem?_cons_succ] at kS0_7a kS1_7a kX0_7a kX1_7a kY0_7a kY1_7a kL0_7a kL1_7a kA0_7a kA1_7a
    have hwr : IntKind.i64.wrap (round - 1) = round - 1 := IntWalk.i64_in _ ⟨by omega, by omega⟩
    obtain ⟨z3, hz3⟩ : ∃ z, z = (sweptT r l (round - 1) ms).2 := ⟨_, rfl⟩
    have hsw := HSX.out (w7.alloc (.cells #[.int .i64 AA, .slice oA mA cA] 33)) r (round - 1) _ (.slice aoV ms.length acV) l ms (rdG_owns itW hoS_7a) (rd_owns hoV_7a) hl12 hsm.out (by omega) HMI.out
    rw [← hz3] at hsw
    have Hz3 := Lib.hid hz3
    clear hz3
    go_wp2_with fail
    refine (hsw).mono ?_
    rintro e w8 ⟨AE, oE, mE, cE, rfl, hb8⟩
    have hB_8 := hB_7a.trans (hb8.mono hB_7a.size)
    have hs8 := hb8.size
    try rw [World.size_alloc] at hs8
    have hoS_8 := owns_below hoS_7a hb8
    have hoV_8 := owns_below hoV_7a hb8
    have hoX_8 := owns_below hoX_7a hb8
    have hoY_8 := owns_below hoY_7a hb8
    have hoM_8 := owns_below hoM_7a hb8
    have hxS_8 := (hb8.block (w1.heap.size) hlS_7a).trans hxS_7a
    have hlS_8 := Nat.lt_of_lt_of_le hlS_7a hb8.size
    have hxX_8 := (hb8.block (w2.heap.size) hlX_7a).trans hxX_7a
    have hlX_8 := Nat.lt_of_lt_of_le hlX_7a hb8.size
    have hxY_8 := (hb8.block (w3.heap.size) hlY_7a).trans hxY_7a
    have hlY_8 := Nat.lt_of_lt_of_le hlY_7a hb8.size
    have hxL_8 := (hb8.block (w6.heap.size) hlL_7a).trans hxL_7a
    have hlL_8 := Nat.lt_of_lt_of_le hlL_7a hb8.size
    have hxA_8 := (hb8.block (w7.heap.size) hlA_7a).trans hxA_7a
    have hlA_8 := Nat.lt_of_lt_of_le hlA_7a hb8.size
    clear hB_7a hoS_7a hoV_7a hoX_7a hoY_7a hoM_7a hxS_7a hlS_7a kS0_7a kS1_7a hxX_7a hlX_7a kX0_7a kX1_7a hxY_7a hlY_7a kY0_7a kY1_7a hxL_7a hlL_7a kL0_7a kL1_7a hxA_7a hlA_7a kA0_7a kA1_7a hb8
    have kS0_8 : (w8).cell? ⟨w1.heap.size, 0, none⟩ = some _ := cell_of_row (w8) (w1.heap.size) 0 _ _ (0, 0) hxS_8
    have kS1_8 : (w8).cell? ⟨w1.heap.size, 1, none⟩ = some _ := cell_of_row (w8) (w1.heap.size) 1 _ _ (0, 0) hxS_8
    have kX0_8 : (w8).cell? ⟨w2.heap.size, 0, none⟩ = some _ := cell_of_row (w8) (w2.heap.size) 0 _ _ (0, 0) hxX_8
    have kX1_8 : (w8).cell? ⟨w2.heap.size, 1, none⟩ = some _ := cell_of_row (w8) (w2.heap.size) 1 _ _ (0, 0) hxX_8
    have kY0_8 : (w8).cell? ⟨w3.heap.size, 0, none⟩ = some _ := cell_of_row (w8) (w3.heap.size) 0 _ _ (0, 0) hxY_8
    have kY1_8 : (w8).cell? ⟨w3.heap.size, 1, none⟩ = some _ := cell_of_row (w8) (w3.heap.size) 1 _ _ (0, 0) hxY_8
    have kL0_8 : (w8).cell? ⟨w6.heap.size, 0, none⟩ = some _ := cell_of_row (w8) (w6.heap.size) 0 _ _ (0, 0) hxL_8
    have kL1_8 : (w8).cell? ⟨w6.heap.size, 1, none⟩ = some _ := cell_of_row (w8) (w6.heap.size) 1 _ _ (0, 0) hxL_8
    have kA0_8 : (w8).cell? ⟨w7.heap.size, 0, none⟩ = some _ := cell_of_row (w8) (w7.heap.size) 0 _ _ (0, 0) hxA_8
    have kA1_8 : (w8).cell? ⟨w7.heap.size, 1, none⟩ = some _ := cell_of_row (w8) (w7.heap.size) 1 _ _ (0, 0) hxA_8
    try simp only [List.getElem?_toArray, List.getElem?_cons_zero, List.getElem?_cons_succ] at kS0_8 kS1_8 kX0_8 kX1_8 kY0_8 kY1_8 kL0_8 kL1_8 kA0_8 kA1_8
    clear hsw
    have hB_8a : Below w.heap.size w (w8.alloc (.cells #[.int .i64 AE, .slice oE mE cE] 33)) := hB_8.alloc hB_8.size _
    have hoS_8a := hoS_8.alloc (.cells #[.int .i64 AE, .slice oE mE cE] 33)
    have hoV_8a := hoV_8.alloc (.cells #[.int .i64 AE, .slice oE mE cE] 33)
    have hoX_8a := hoX_8.alloc (.cells #[.int .i64 AE, .slice oE mE cE] 33)
    have hoY_8a := hoY_8.alloc (.cells #[.int .i64 AE, .slice oE mE cE] 33)
    have hoM_8a := hoM_8.alloc (.cells #[.int .i64 AE, .slice oE mE cE] 33)
    have hxS_8a : (w8.alloc (.cells #[.int .i64 AE, .slice oE mE cE] 33)).heap[w1.heap.size]? = _ := (heap_alloc_old w8 _ hlS_8).trans hxS_8
    have hlS_8a : w1.heap.size < (w8.alloc (.cells #[.int .i64 AE, .slice oE mE cE] 33)).heap.size := by rw [World.size_alloc]; omega
    have hxX_8a : (w8.alloc (.cells #[.int .i64 AE, .slice oE mE cE] 33)).heap[w2.heap.size]? = _ := (heap_alloc_old w8 _ hlX_8).trans hxX_8
    have hlX_8a : w2.heap.size < (w8.alloc (.cells #[.int .i64 AE, .slice oE mE cE] 33)).heap.size := by rw [World.size_alloc]; omega
    have hxY_8a : (w8.alloc (.cells #[.int .i64 AE, .slice oE mE cE] 33)).heap[w3.heap.size]? = _ := (heap_alloc_old w8 _ hlY_8).trans hxY_8
    have hlY_8a : w3.heap.size < (w8.alloc (.cells #[.int .i64 AE, .slice oE mE cE] 33)).heap.size := by rw [World.size_alloc]; omega
    have hxL_8a : (w8.alloc (.cells #[.int .i64 AE, .slice oE mE cE] 33)).heap[w6.heap.size]? = _ := (heap_alloc_old w8 _ hlL_8).trans hxL_8
    have hlL_8a : w6.heap.size < (w8.alloc (.cells #[.int .i64 AE, .slice oE mE cE] 33)).heap.size := by rw [World.size_alloc]; omega
    have hxA_8a : (w8.alloc (.cells #[.int .i64 AE, .slice oE mE cE] 33)).heap[w7.heap.size]? = _ := (heap_alloc_old w8 _ hlA_8).trans hxA_8
    have hlA_8a : w7.heap.size < (w8.alloc (.cells #[.int .i64 AE, .slice oE mE cE] 33)).heap.size := by rw [World.size_alloc]; omega
    clear hB_8 hoS_8 hoV_8 hoX_8 hoY_8 hoM_8 hxS_8 hlS_8 kS0_8 kS1_8 hxX_8 hlX_8 kX0_8 kX1_8 hxY_8 hlY_8 kY0_8 kY1_8 hxL_8 hlL_8 kL0_8 kL1_8 hxA_8 hlA_8 kA0_8 kA1_8
    have hxE_8a : (w8.alloc (.cells #[.int .i64 AE, .slice oE mE cE] 33)).heap[w8.heap.size]? = _ := heap_alloc_new w8 _
    have hlE_8a : w8.heap.size < (w8.alloc (.cells #[.int .i64 AE, .slice oE mE cE] 33)).heap.size := by rw [World.size_alloc]; omega
    have kS0_8a : (w8.alloc (.cells #[.int .i64 AE, .slice oE mE cE] 33)).cell? ⟨w1.heap.size, 0, none⟩ = some _ := cell_of_row (w8.alloc (.cells #[.int .i64 AE, .slice oE mE cE] 33)) (w1.heap.size) 0 _ _ (0, 0) hxS_8a
    have kS1_8a : (w8.alloc (.cells #[.int .i64 AE, .slice oE mE cE] 33)).cell? ⟨w1.heap.size, 1, none⟩ = some _ := cell_of_row (w8.alloc (.cells #[.int .i64 AE, .slice oE mE cE] 33)) (w1.heap.size) 1 _ _ (0, 0) hxS_8a
    have kX0_8a : (w8.alloc (.cells #[.int .i64 AE, .slice oE mE cE] 33)).cell? ⟨w2.heap.size, 0, none⟩ = some _ := cell_of_row (w8.alloc (.cells #[.int .i64 AE, .slice oE mE cE] 33)) (w2.heap.size) 0 _ _ (0, 0) hxX_8a
    have kX1_8a : (w8.alloc (.cells #[.int .i64 AE, .slice oE mE cE] 33)).cell? ⟨w2.heap.size, 1, none⟩ = some _ := cell_of_row (w8.alloc (.cells #[.int .i64 AE, .slice oE mE cE] 33)) (w2.heap.size) 1 _ _ (0, 0) hxX_8a
    have kY0_8a : (w8.alloc (.cells #[.int .i64 AE, .slice oE mE cE] 33)).cell? ⟨w3.heap.size, 0, none⟩ = some _ := cell_of_row (w8.alloc (.cells #[.int .i64 AE, .slice oE mE cE] 33)) (w3.heap.size) 0 _ _ (0, 0) hxY_8a
    have kY1_8a : (w8.alloc (.cells #[.int .i64 AE, .slice oE mE cE] 33)).cell? ⟨w3.heap.size, 1, none⟩ = some _ := cell_of_row (w8.alloc (.cells #[.int .i64 AE, .slice oE mE cE] 33)) (w3.heap.size) 1 _ _ (0, 0) hxY_8a
    have kL0_8a : (w8.alloc (.cells #[.int .i64 AE, .slice oE mE cE] 33)).cell? ⟨w6.heap.size, 0, none⟩ = some _ := cell_of_row (w8.alloc (.cells #[.int .i64 AE, .slice oE mE cE] 33)) (w6.heap.size) 0 _ _ (0, 0) hxL_8a
    have kL1_8a : (w8.alloc (.cells #[.int .i64 AE, .slice oE mE cE] 33)).cell? ⟨w6.heap.size, 1, none⟩ = some _ := cell_of_row (w8.alloc (.cells #[.int .i64 AE, .slice oE mE cE] 33)) (w6.heap.size) 1 _ _ (0, 0) hxL_8a
    have kA0_8a : (w8.alloc (.cells #[.int .i64 AE, .slice oE mE cE] 33)).cell? ⟨w7.heap.size, 0, none⟩ = some _ := cell_of_row (w8.alloc (.cells #[.int .i64 AE, .slice oE mE cE] 33)) (w7.heap.size) 0 _ _ (0, 0) hxA_8a
    have kA1_8a : (w8.alloc (.cells #[.int .i64 AE, .slice oE mE cE] 33)).cell? ⟨w7.heap.size, 1, none⟩ = some _ := cell_of_row (w8.alloc (.cells #[.int .i64 AE, .slice oE mE cE] 33)) (w7.heap.size) 1 _ _ (0, 0) hxA_8a
    have kE0_8a : (w8.alloc (.cells #[.int .i64 AE, .slice oE mE cE] 33)).cell? ⟨w8.heap.size, 0, none⟩ = some _ := cell_of_row (w8.alloc (.cells #[.int .i64 AE, .slice oE mE cE] 33)) (w8.heap.size) 0 _ _ (0, 0) hxE_8a
    have kE1_8a : (w8.alloc (.cells #[.int .i64 AE, .slice oE mE cE] 33)).cell? ⟨w8.heap.size, 1, none⟩ = some _ := cell_of_row (w8.alloc (.cells #[.int .i64 AE, .slice oE mE cE] 33)) (w8.heap.size) 1 _ _ (0, 0) hxE_8a
    try simp only [List.getElem?_toArray, List.getElem?_cons_zero, List.getElem?_cons_succ] at kS0_8a kS1_8a kX0_8a kX1_8a kY0_8a kY1_8a kL0_8a kL1_8a kA0_8a kA1_8a kE0_8a kE1_8a
    obtain ⟨z4, hz4⟩ : ∃ z, z = (sweptT r l round []).2 := ⟨_, rfl⟩
    have hsw := HSX.out (w8.alloc (.cells #[.int .i64 AE, .slice oE mE cE] 33)) r round _ (.slice none 0 0) l [] (rdG_owns itW hoS_8a) ⟨none, 0, rfl, Nat.le_refl _, fun h => absurd rfl h⟩ hl12 hsm.out (by decide) (fun d hd => by cases hd)
    rw [← hz4] at hsw
    have Hz4 := Lib.hid hz4
    clear hz4
    go_wp2_with fail
    refine (hsw).mono ?_
    rintro e w9 ⟨AN, oN, mN, cN, rfl, hb9⟩
    have hB_9 := hB_8a.trans (hb9.mono hB_8a.size)
    have hs9 := hb9.size
    try rw [World.size_alloc] at hs9
    have hoS_9 := owns_below hoS_8a hb9
    have hoV_9 := owns_below hoV_8a hb9
    have hoX_9 := owns_below hoX_8a hb9
    have hoY_9 := owns_below hoY_8a hb9
    have hoM_9 := owns_below hoM_8a hb9
    have hxS_9 := (hb9.block (w1.heap.size) hlS_8a).trans hxS_8a
    have hlS_9 := Nat.lt_of_lt_of_le hlS_8a hb9.size
    have hxX_9 := (hb9.block (w2.heap.size) hlX_8a).trans hxX_8a
    have hlX_9 := Nat.lt_of_lt_of_le hlX_8a hb9.size
    have hxY_9 := (hb9.block (w3.heap.size) hlY_8a).trans hxY_8a
    have hlY_9 := Nat.lt_of_lt_of_le hlY_8a hb9.size
    have hxL_9 := (hb9.block (w6.heap.size) hlL_8a).trans hxL_8a
    have hlL_9 := Nat.lt_of_lt_of_le hlL_8a hb9.size
    have hxA_9 := (hb9.block (w7.heap.size) hlA_8a).trans hxA_8a
    have hlA_9 := Nat.lt_of_lt_of_le hlA_8a hb9.size
    have hxE_9 := (hb9.block (w8.heap.size) hlE_8a).trans hxE_8a
    have hlE_9 := Nat.lt_of_lt_of_le hlE_8a hb9.size
    clear hB_8a hoS_8a hoV_8a hoX_8a hoY_8a hoM_8a hxS_8a hlS_8a kS0_8a kS1_8a hxX_8a hlX_8a kX0_8a kX1_8a hxY_8a hlY_8a kY0_8a kY1_8a hxL_8a hlL_8a kL0_8a kL1_8a hxA_8a hlA_8a kA0_8a kA1_8a hxE_8a hlE_8a kE0_8a kE1_8a hb9
    have kS0_9 : (w9).cell? ⟨w1.heap.size, 0, none⟩ = some _ := cell_of_row (w9) (w1.heap.size) 0 _ _ (0, 0) hxS_9
    have kS1_9 : (w9).cell? ⟨w1.heap.size, 1, none⟩ = some _ := cell_of_row (w9) (w1.heap.size) 1 _ _ (0, 0) hxS_9
    have kX0_9 : (w9).cell? ⟨w2.heap.size, 0, none⟩ = some _ := cell_of_row (w9) (w2.heap.size) 0 _ _ (0, 0) hxX_9
    have kX1_9 : (w9).cell? ⟨w2.heap.size, 1, none⟩ = some _ := cell_of_row (w9) (w2.heap.size) 1 _ _ (0, 0) hxX_9
    have kY0_9 : (w9).cell? ⟨w3.heap.size, 0, none⟩ = some _ := cell_of_row (w9) (w3.heap.size) 0 _ _ (0, 0) hxY_9
    have kY1_9 : (w9).cell? ⟨w3.heap.size, 1, none⟩ = some _ := cell_of_row (w9) (w3.heap.size) 1 _ _ (0, 0) hxY_9
    have kL0_9 : (w9).cell? ⟨w6.heap.size, 0, none⟩ = some _ := cell_of_row (w9) (w6.heap.size) 0 _ _ (0, 0) hxL_9
    have kL1_9 : (w9).cell? ⟨w6.heap.size, 1, none⟩ = some _ := cell_of_row (w9) (w6.heap.size) 1 _ _ (0, 0) hxL_9
    have kA0_9 : (w9).cell? ⟨w7.heap.size, 0, none⟩ = some _ := cell_of_row (w9) (w7.heap.size) 0 _ _ (0, 0) hxA_9
    have kA1_9 : (w9).cell? ⟨w7.heap.size, 1, none⟩ = some _ := cell_of_row (w9) (w7.heap.size) 1 _ _ (0, 0) hxA_9
    have kE0_9 : (w9).cell? ⟨w8.heap.size, 0, none⟩ = some _ := cell_of_row (w9) (w8.heap.size) 0 _ _ (0, 0) hxE_9
    have kE1_9 : (w9).cell? ⟨w8.heap.size, 1, none⟩ = some _ := cell_of_row (w9) (w8.heap.size) 1 _ _ (0, 0) hxE_9
    try simp only [List.getElem?_toArray, List.getElem?_cons_zero, List.getElem?_cons_succ] at kS0_9 kS1_9 kX0_9 kX1_9 kY0_9 kY1_9 kL0_9 kL1_9 kA0_9 kA1_9 kE0_9 kE1_9
    clear hsw
    have hB_9a : Below w.heap.size w (w9.alloc (.cells #[.int .i64 AN, .slice oN mN cN] 33)) := hB_9.alloc hB_9.size _
    have hoS_9a := hoS_9.alloc (.cells #[.int .i64 AN, .slice oN mN cN] 33)
    have hoV_9a := hoV_9.alloc (.cells #[.int .i64 AN, .slice oN mN cN] 33)
    have hoX_9a := hoX_9.alloc (.cells #[.int .i64 AN, .slice oN mN cN] 33)
    have hoY_9a := hoY_9.alloc (.cells #[.int .i64 AN, .slice oN mN cN] 33)
    have hoM_9a := hoM_9.alloc (.cells #[.int .i64 AN, .slice oN mN cN] 33)
    have hxS_9a : (w9.alloc (.cells #[.int .i64 AN, .slice oN mN cN] 33)).heap[w1.heap.size]? = _ := (heap_alloc_old w9 _ hlS_9).trans hxS_9
    have hlS_9a : w1.heap.size < (w9.alloc (.cells #[.int .i64 AN, .slice oN mN cN] 33)).heap.size := by rw [World.size_alloc]; omega
    have hxX_9a : (w9.alloc (.cells #[.int .i64 AN, .slice oN mN cN] 33)).heap[w2.heap.size]? = _ := (heap_alloc_old w9 _ hlX_9).trans hxX_9
    have hlX_9a : w2.heap.size < (w9.alloc (.cells #[.int .i64 AN, .slice oN mN cN] 33)).heap.size := by rw [World.size_alloc]; omega
    have hxY_9a : (w9.alloc (.cells #[.int .i64 AN, .slice oN mN cN] 33)).heap[w3.heap.size]? = _ := (heap_alloc_old w9 _ hlY_9).trans hxY_9
    have hlY_9a : w3.heap.size < (w9.alloc (.cells #[.int .i64 AN, .slice oN mN cN] 33)).heap.size := by rw [World.size_alloc]; omega
    have hxL_9a : (w9.alloc (.cells #[.int .i64 AN, .slice oN mN cN] 33)).heap[w6.heap.size]? = _ := (heap_alloc_old w9 _ hlL_9).trans hxL_9
    have hlL_9a : w6.heap.size < (w9.alloc (.cells #[.int .i64 AN, .slice oN mN cN] 33)).heap.size := by rw [World.size_alloc]; omega
    have hxA_9a : (w9.alloc (.cells #[.int .i64 AN, .slice oN mN cN] 33)).heap[w7.heap.size]? = _ := (heap_alloc_old w9 _ hlA_9).trans hxA_9
    have hlA_9a : w7.heap.size < (w9.alloc (.cells #[.int .i64 AN, .slice oN mN cN] 33)).heap.size := by rw [World.size_alloc]; omega
    have hxE_9a : (w9.alloc (.cells #[.int .i64 AN, .slice oN mN cN] 33)).heap[w8.heap.size]? = _ := (heap_alloc_old w9 _ hlE_9).trans hxE_9
    have hlE_9a : w8.heap.size < (w9.alloc (.cells #[.int .i64 AN, .slice oN mN cN] 33)).heap.size := by rw [World.size_alloc]; omega
    clear hB_9 hoS_9 hoV_9 hoX_9 hoY_9 hoM_9 hxS_9 hlS_9 kS0_9 kS1_9 hxX_9 hlX_9 kX0_9 kX1_9 hxY_9 hlY_9 kY0_9 kY1_9 hxL_9 hlL_9 kL0_9 kL1_9 hxA_9 hlA_9 kA0_9 kA1_9 hxE_9 hlE_9 kE0_9 kE1_9
    have hxN_9a : (w9.alloc (.cells #[.int .i64 AN, .slice oN mN cN] 33)).heap[w9.heap.size]? = _ := heap_alloc_new w9 _
    have hlN_9a : w9.heap.size < (w9.alloc (.cells #[.int .i64 AN, .slice oN mN cN] 33)).heap.size := by rw [World.size_alloc]; omega
    have kS0_9a : (w9.alloc (.cells #[.int .i64 AN, .slice oN mN cN] 33)).cell? ⟨w1.heap.size, 0, none⟩ = some _ := cell_of_row (w9.alloc (.cells #[.int .i64 AN, .slice oN mN cN] 33)) (w1.heap.size) 0 _ _ (0, 0) hxS_9a
    have kS1_9a : (w9.alloc (.cells #[.int .i64 AN, .slice oN mN cN] 33)).cell? ⟨w1.heap.size, 1, none⟩ = some _ := cell_of_row (w9.alloc (.cells #[.int .i64 AN, .slice oN mN cN] 33)) (w1.heap.size) 1 _ _ (0, 0) hxS_9a
    have kX0_9a : (w9.alloc (.cells #[.int .i64 AN, .slice oN mN cN] 33)).cell? ⟨w2.heap.size, 0, none⟩ = some _ := cell_of_row (w9.alloc (.cells #[.int .i64 AN, .slice oN mN cN] 33)) (w2.heap.size) 0 _ _ (0, 0) hxX_9a
    have kX1_9a : (w9.alloc (.cells #[.int .i64 AN, .slice oN mN cN] 33)).cell? ⟨w2.heap.size, 1, none⟩ = some _ := cell_of_row (w9.alloc (.cells #[.int .i64 AN, .slice oN mN cN] 33)) (w2.heap.size) 1 _ _ (0, 0) hxX_9a
    have kY0_9a : (w9.alloc (.cells #[.int .i64 AN, .slice oN mN cN] 33)).cell? ⟨w3.heap.size, 0, none⟩ = some _ := cell_of_row (w9.alloc (.cells #[.int .i64 AN, .slice oN mN cN] 33)) (w3.heap.size) 0 _ _ (0, 0) hxY_9a
    have kY1_9a : (w9.alloc (.cells #[.int .i64 AN, .slice oN mN cN] 33)).cell? ⟨w3.heap.size, 1, none⟩ = some _ := cell_of_row (w9.alloc (.cells #[.int .i64 AN, .slice oN mN cN] 33)) (w3.heap.size) 1 _ _ (0, 0) hxY_9a
    have kL0_9a : (w9.alloc (.cells #[.int .i64 AN, .slice oN mN cN] 33)).cell? ⟨w6.heap.size, 0, none⟩ = some _ := cell_of_row (w9.alloc (.cells #[.int .i64 AN, .slice oN mN cN] 33)) (w6.heap.size) 0 _ _ (0, 0) hxL_9a
    have kL1_9a : (w9.alloc (.cells #[.int .i64 AN, .slice oN mN cN] 33)).cell? ⟨w6.heap.size, 1, none⟩ = some _ := cell_of_row (w9.alloc (.cells #[.int .i64 AN, .slice oN mN cN] 33)) (w6.heap.size) 1 _ _ (0, 0) hxL_9a
    have kA0_9a : (w9.alloc (.cells #[.int .i64 AN, .slice oN mN cN] 33)).cell? ⟨w7.heap.size, 0, none⟩ = some _ := cell_of_row (w9.alloc (.cells #[.int .i64 AN, .slice oN mN cN] 33)) (w7.heap.size) 0 _ _ (0, 0) hxA_9a
    have kA1_9a : (w9.alloc (.cells #[.int .i64 AN, .slice oN mN cN] 33)).cell? ⟨w7.heap.size, 1, none⟩ = some _ := cell_of_row (w9.alloc (.cells #[.int .i64 AN, .slice oN mN cN] 33)) (w7.heap.size) 1 _ _ (0, 0) hxA_9a
    have kE0_9a : (w9.alloc (.cells #[.int .i64 AN, .slice oN mN cN] 33)).cell? ⟨w8.heap.size, 0, none⟩ = some _ := cell_of_row (w9.alloc (.cells #[.int .i64 AN, .slice oN mN cN] 33)) (w8.heap.size) 0 _ _ (0, 0) hxE_9a
    have kE1_9a : (w9.alloc (.cells #[.int .i64 AN, .slice oN mN cN] 33)).cell? ⟨w8.heap.size, 1, none⟩ = some _ := cell_of_row (w9.alloc (.cells #[.int .i64 AN, .slice oN mN cN] 33)) (w8.heap.size) 1 _ _ (0, 0) hxE_9a
    have kN0_9a : (w9.alloc (.cells #[.int .i64 AN, .slice oN mN cN] 33)).cell? ⟨w9.heap.size, 0, none⟩ = some _ := cell_of_row (w9.alloc (.cells #[.int .i64 AN, .slice oN mN cN] 33)) (w9.heap.size) 0 _ _ (0, 0) hxN_9a
    have kN1_9a : (w9.alloc (.cells #[.int .i64 AN, .slice oN mN cN] 33)).cell? ⟨w9.heap.size, 1, none⟩ = some _ := cell_of_row (w9.alloc (.cells #[.int .i64 AN, .slice oN mN cN] 33)) (w9.heap.size) 1 _ _ (0, 0) hxN_9a
    try simp only [List.getElem?_toArray, List.getElem?_cons_zero, List.getElem?_cons_succ] at kS0_9a kS1_9a kX0_9a kX1_9a kY0_9a kY1_9a kL0_9a kL1_9a kA0_9a kA1_9a kE0_9a kE1_9a kN0_9a kN1_9a
    rw [← Hz3.out] at q0
    rw [← Hz4.out] at q1
    rw [← Hz2.out] at q3
    have HB := Lib.hid hB_9a
    clear hB_9a hoS_9a hoV_9a hoX_9a hoY_9a hoM_9a hxS_9a hlS_9a kS0_9a kS1_9a hxX_9a hlX_9a kX0_9a kX1_9a hxY_9a hlY_9a kY0_9a kY1_9a hxL_9a hlL_9a kL0_9a kL1_9a hxA_9a hlA_9a kA0_9a kA1_9a hxE_9a hlE_9a kE0_9a kE1_9a hxN_9a hlN_9a kN0_9a kN1_9a
    have hw3 : IntKind.i64.wrap (R3 - 1) = R3 - 1 := IntWalk.i64_in _ ⟨by omega, by omega⟩
    have g1 : z1 ≤ R3 ∧ R3 - 1 ≤ z1 := by rw [Hz1.out, ← HR.out.2.2]; omega
    clear Hz1 Hz2 Hz3 Hz4
    go_wp2
    go_ret
    exact ⟨rfl, HB.out⟩
  · obtain ⟨gS, hgS⟩ : ∃ g, aoS = some ⟨g, 0, none⟩ := by
      rcases hoS_5.2 with ⟨_, h2⟩ | ⟨g, cap9, cur9, hv9, _⟩
      · omega
      · simp only [Value.slice.injEq] at hv9; exact ⟨g, hv9.1⟩
    subst hgS
    clear hneg
    have HS0 : Hid (∀ W : World, Below (w5).heap.size (w5) W → (W.cell? ⟨w1.heap.size, 0, none⟩ = some (.int .i64 r) ∧ W.cell? ⟨w1.heap.size, 1, none⟩ = some (.slice (some ⟨gS, 0, none⟩) l.length acS))) := fun W hW => ⟨(hW.cell (p := ⟨w1.heap.size, 0, none⟩) hlS_5).trans kS0_5, (hW.cell (p := ⟨w1.heap.size, 1, none⟩) hlS_5).trans kS1_5⟩
    have HPI : Hid (∀ W : World, Below (w5).heap.size (w5) W → Calls Try.prog 10 #[.slice ao bs.length cap, .int .i64 1, .int .i64 (l.length : Int)] W fun e w9 => ∃ (j : Nat) (d : Int), e = .returned (.int .i64 (j : Int)) ∧ j < l.length ∧ Hid (d = (l.getD j it0).1) ∧ w9.cell? ⟨gS, j * 5, none⟩ = some (.int .i64 d) ∧ Below (w5).heap.size (w5) w9) := fun W hW => by
      refine (HPK.out 1 l.length W (hB_5.trans (hW.mono hB_5.size)) (by omega) (by omega) hlN (by omega)).mono ?_
      rintro e w9 ⟨j9, rfl, h0, h1, hb9⟩
      obtain ⟨j, hj⟩ := Int.eq_ofNat_of_zero_le h0
      subst hj
      have hjl : j < l.length := by omega
      have hbb := hW.trans (hb9.mono hW.size)
      exact ⟨j, _, rfl, hjl, rfl, (it_cells0 (cellsG_own itW (owns_below hoS_5 hbb)) hjl).1, hbb⟩
    have HQL : Hid (∀ (W : World) (B : Nat) (q : Int), B ≤ W.heap.size → (W.alloc (.cells #[.int .i64 q] 2)).ownsRow B 2 1 (.slice (some ⟨W.heap.size, 0, none⟩) 1 1) ([q] : List Int).length (cellsInt64S [q])) := fun W B q hB => World.ownsRow_lit (base := B) (e := 2) (size := 1) W #[.int .i64 q] 1 hB (by unfold maxLen; omega) rfl
    have hbd : Below (w5).heap.size (w5) (w5).drew := (Below.refl _ _).drew
    have x0 := HS0.out _ hbd
    have x1 := HS0.out _ (Below.refl _ _)
    have hsT := hB_5.size
    go_wp2_with fail
    go_region_law (first
      | (refine step_ownN rfl (.tmp 61) (.tmp 71) rfl (w4).heap.size (.slice aoM ms.length acM) (.slice (some ⟨w10.heap.size, 0, none⟩) 1 1) ms [d] (by simp [Act.eval]) (by simp [Act.eval]) ((owns_below hoM_5 hbp).alloc _) (rd_owns (HQL.out w10 _ d (Nat.le_refl _))) (by simp; omega) (Nat.le_trans (Nat.le_trans hMb hbp.size) (Nat.le_of_lt (by rw [World.size_alloc]; omega))) ?_; intro v9 w11 ho9 hg9 hi9)
      | (go_simp; go_at_call 10; refine (HPI.out _ hbd).mono ?_; rintro e w10 ⟨j, d, rfl, hj, hd, hcd, hbp⟩; have x2 := HS0.out _ hbp; have hjI : (j : Int) < (l.length : Int) := by omega))
    all_goals
      have hdi := hli.out (l.getD j it0) (by rw [getD_it hj]; exact List.getElem_mem hj)
      rw [← hd.out] at hdi
      have hq2 := Lib.hid (q2.out d)
      have hMMi : ∀ x ∈ ms ++ [d], -9223372036854775808 ≤ x ∧ x ≤ 9223372036854775807 := fun x hx => by
        rcases List.mem_append.1 hx with h | h
        · exact HMI.out x h
        · rw [List.mem_singleton] at h; rw [h]; exact hdi
      have hMMl : (ms ++ [d]).length ≤ 6 := by rw [List.length_append, List.length_singleton]; omega
      generalize ms ++ [d] = MM at ho9 hq2 hMMi hMMl
      have HMN := Lib.hid hMMi
      have hbs := hbp.size
      have hB10 := hB_5.trans (hbp.mono hB_5.size)
      have hBA := hB10.alloc hB10.size (.cells #[.int .i64 d] 2)
      have hB_11 : Below w.heap.size w w11 := hBA.grown hg9 hBA.size (fun q hq => by have := (hvM q hq).1; omega)
      have hoS_11 := owns_grown ((owns_below hoS_5 hbp).alloc (.cells #[.int .i64 d] 2)) hg9 (fun q hq h => by have h1 := (hvM q hq).1; have h2 := (hvS q h).2; omega)
      have hoV_11 := owns_grown ((owns_below hoV_5 hbp).alloc (.cells #[.int .i64 d] 2)) hg9 (fun q hq h => by have h1 := (hvM q hq).1; have h2 := (hvV q h).2; omega)
      have hoX_11 := owns_grown ((owns_below hoX_5 hbp).alloc (.cells #[.int .i64 d] 2)) hg9 (fun q hq h => by have h1 := (hvM q hq).1; have h2 := (hvX q h).2; omega)
      have hoY_11 := owns_grown ((owns_below hoY_5 hbp).alloc (.cells #[.int .i64 d] 2)) hg9 (fun q hq h => by have h1 := (hvM q hq).1; have h2 := (hvY q h).2; omega)
      have hxS_11 := (hg9.block (w1.heap.size) (by rw [World.size_alloc]; omega) (fun h => by have h1 := (hvM _ h.symm).1; omega)).trans ((heap_alloc_old w10 (.cells #[.int .i64 d] 2) (show w1.heap.size < w10.heap.size by omega)).trans ((hbp.block (w1.heap.size) hlS_5).trans hxS_5))
      have hlS_11 : w1.heap.size < w11.heap.size := Nat.lt_of_lt_of_le (show w1.heap.size < (w10.alloc (.cells #[.int .i64 d] 2)).heap.size by rw [World.size_alloc]; omega) hg9.size
      have hxX_11 := (hg9.block (w2.heap.size) (by rw [World.size_alloc]; omega) (fun h => by have h1 := (hvM _ h.symm).1; omega)).trans ((heap_alloc_old w10 (.cells #[.int .i64 d] 2) (show w2.heap.size < w10.heap.size by omega)).trans ((hbp.block (w2.heap.size) hlX_5).trans hxX_5))
      have hlX_11 : w2.heap.size < w11.heap.size := Nat.lt_of_lt_of_le (show w2.heap.size < (w10.alloc (.cells #[.int .i64 d] 2)).heap.size by rw [World.size_alloc]; omega) hg9.size
      have hxY_11 := (hg9.block (w3.heap.size) (by rw [World.size_alloc]; omega) (fun h => by have h1 := (hvM _ h.symm).1; omega)).trans ((heap_alloc_old w10 (.cells #[.int .i64 d] 2) (show w3.heap.size < w10.heap.size by omega)).trans ((hbp.block (w3.heap.size) hlY_5).trans hxY_5))
      have hlY_11 : w3.heap.size < w11.heap.size := Nat.lt_of_lt_of_le (show w3.heap.size < (w10.alloc (.cells #[.int .i64 d] 2)).heap.size by rw [World.size_alloc]; omega) hg9.size
      have hoN_11 := ho9
      obtain ⟨aoN, acN, hvN9⟩ := owns_slice ho9
      subst hvN9
      have hs11 := hg9.size
      rw [World.size_alloc] at hs11
      clear hB_5 hoS_5 hoV_5 hoX_5 hoY_5 hxS_5 hlS_5 kS0_5 kS1_5 hxX_5 hlX_5 kX0_5 kX1_5 hxY_5 hlY_5 kY0_5 kY1_5 hoM_5 hg9 hi9 ho9 hbp hB10 hBA x2 hcd HS0 HPI HQL hMMi x0 x1 hbd hjI hd HPK q2
      have kS0_11 : (w11).cell? ⟨w1.heap.size, 0, none⟩ = some _ := cell_of_row (w11) (w1.heap.size) 0 _ _ (0, 0) hxS_11
      have kS1_11 : (w11).cell? ⟨w1.heap.size, 1, none⟩ = some _ := cell_of_row (w11) (w1.heap.size) 1 _ _ (0, 0) hxS_11
      have kX0_11 : (w11).cell? ⟨w2.heap.size, 0, none⟩ = some _ := cell_of_row (w11) (w2.heap.size) 0 _ _ (0, 0) hxX_11
      have kX1_11 : (w11).cell? ⟨w2.heap.size, 1, none⟩ = some _ := cell_of_row (w11) (w2.heap.size) 1 _ _ (0, 0) hxX_11
      have kY0_11 : (w11).cell? ⟨w3.heap.size, 0, none⟩ = some _ := cell_of_row (w11) (w3.heap.size) 0 _ _ (0, 0) hxY_11
      have kY1_11 : (w11).cell? ⟨w3.heap.size, 1, none⟩ = some _ := cell_of_row (w11) (w3.heap.size) 1 _ _ (0, 0) hxY_11
      try simp only [List.getElem?_toArray, List.getElem?_cons_zero, List.getElem?_cons_succ] at kS0_11 kS1_11 kX0_11 kX1_11 kY0_11 kY1_11
      obtain ⟨z1, hz1⟩ : ∃ z, z = (sweptT r l round MM).2 := ⟨_, rfl⟩
      have hsw := HSX.out (w11) r round _ (.slice aoN MM.length acN) l MM (rdG_owns itW hoS_11) (rd_owns hoN_11) hl12 hsm.out (by omega) HMN.out
      rw [← hz1] at hsw
      have Hz1 := Lib.hid hz1
      clear hz1
      go_wp2_with fail
      refine (hsw).mono ?_
      rintro e w12 ⟨AL, oL, mL, cL, rfl, hb12⟩
      have hB_12 := hB_11.trans (hb12.mono hB_11.size)
      have hs12 := hb12.size
      try rw [World.size_alloc] at hs12
      have hoS_12 := owns_below hoS_11 hb12
      have hoV_12 := owns_below hoV_11 hb12
      have hoX_12 := owns_below hoX_11 hb12
      have hoY_12 := owns_below hoY_11 hb12
      have hoN_12 := owns_below hoN_11 hb12
      have hxS_12 := (hb12.block (w1.heap.size) hlS_11).trans hxS_11
      have hlS_12 := Nat.lt_of_lt_of_le hlS_11 hb12.size
      have hxX_12 := (hb12.block (w2.heap.size) hlX_11).trans hxX_11
      have hlX_12 := Nat.lt_of_lt_of_le hlX_11 hb12.size
      have hxY_12 := (hb12.block (w3.heap.size) hlY_11).trans hxY_11
      have hlY_12 := Nat.lt_of_lt_of_le hlY_11 hb12.size
      clear hB_11 hoS_11 hoV_11 hoX_11 hoY_11 hoN_11 hxS_11 hlS_11 kS0_11 kS1_11 hxX_11 hlX_11 kX0_11 kX1_11 hxY_11 hlY_11 kY0_11 kY1_11 hb12
      have kS0_12 : (w12).cell? ⟨w1.heap.size, 0, none⟩ = some _ := cell_of_row (w12) (w1.heap.size) 0 _ _ (0, 0) hxS_12
      have kS1_12 : (w12).cell? ⟨w1.heap.size, 1, none⟩ = some _ := cell_of_row (w12) (w1.heap.size) 1 _ _ (0, 0) hxS_12
      have kX0_12 : (w12).cell? ⟨w2.heap.size, 0, none⟩ = some _ := cell_of_row (w12) (w2.heap.size) 0 _ _ (0, 0) hxX_12
      have kX1_12 : (w12).cell? ⟨w2.heap.size, 1, none⟩ = some _ := cell_of_row (w12) (w2.heap.size) 1 _ _ (0, 0) hxX_12
      have kY0_12 : (w12).cell? ⟨w3.heap.size, 0, none⟩ = some _ := cell_of_row (w12) (w3.heap.size) 0 _ _ (0, 0) hxY_12
      have kY1_12 : (w12).cell? ⟨w3.heap.size, 1, none⟩ = some _ := cell_of_row (w12) (w3.heap.size) 1 _ _ (0, 0) hxY_12
      try simp only [List.getElem?_toArray, List.getElem?_cons_zero, List.getElem?_cons_succ] at kS0_12 kS1_12 kX0_12 kX1_12 kY0_12 kY1_12
      clear hsw
      have hB_12a : Below w.heap.size w (w12.alloc (.cells #[.int .i64 AL, .slice oL mL cL] 33)) := hB_12.alloc hB_12.size _
      have hoS_12a := hoS_12.alloc (.cells #[.int .i64 AL, .slice oL mL cL] 33)
      have hoV_12a := hoV_12.alloc (.cells #[.int .i64 AL, .slice oL mL cL] 33)
      have hoX_12a := hoX_12.alloc (.cells #[.int .i64 AL, .slice oL mL cL] 33)
      have hoY_12a := hoY_12.alloc (.cells #[.int .i64 AL, .slice oL mL cL] 33)
      have hoN_12a := hoN_12.alloc (.cells #[.int .i64 AL, .slice oL mL cL] 33)
      have hxS_12a : (w12.alloc (.cells #[.int .i64 AL, .slice oL mL cL] 33)).heap[w1.heap.size]? = _ := (heap_alloc_old w12 _ hlS_12).trans hxS_12
      have hlS_12a : w1.heap.size < (w12.alloc (.cells #[.int .i64 AL, .slice oL mL cL] 33)).heap.size := by rw [World.size_alloc]; omega
      have hxX_12a : (w12.alloc (.cells #[.int .i64 AL, .slice oL mL cL] 33)).heap[w2.heap.size]? = _ := (heap_alloc_old w12 _ hlX_12).trans hxX_12
      have hlX_12a : w2.heap.size < (w12.alloc (.cells #[.int .i64 AL, .slice oL mL cL] 33)).heap.size := by rw [World.size_alloc]; omega
      have hxY_12a : (w12.alloc (.cells #[.int .i64 AL, .slice oL mL cL] 33)).heap[w3.heap.size]? = _ := (heap_alloc_old w12 _ hlY_12).trans hxY_12
      have hlY_12a : w3.heap.size < (w12.alloc (.cells #[.int .i64 AL, .slice oL mL cL] 33)).heap.size := by rw [World.size_alloc]; omega
      clear hB_12 hoS_12 hoV_12 hoX_12 hoY_12 hoN_12 hxS_12 hlS_12 kS0_12 kS1_12 hxX_12 hlX_12 kX0_12 kX1_12 hxY_12 hlY_12 kY0_12 kY1_12
      have hxL_12a : (w12.alloc (.cells #[.int .i64 AL, .slice oL mL cL] 33)).heap[w12.heap.size]? = _ := heap_alloc_new w12 _
      have hlL_12a : w12.heap.size < (w12.alloc (.cells #[.int .i64 AL, .slice oL mL cL] 33)).heap.size := by rw [World.size_alloc]; omega
      have kS0_12a : (w12.alloc (.cells #[.int .i64 AL, .slice oL mL cL] 33)).cell? ⟨w1.heap.size, 0, none⟩ = some _ := cell_of_row (w12.alloc (.cells #[.int .i64 AL, .slice oL mL cL] 33)) (w1.heap.size) 0 _ _ (0, 0) hxS_12a
      have kS1_12a : (w12.alloc (.cells #[.int .i64 AL, .slice oL mL cL] 33)).cell? ⟨w1.heap.size, 1, none⟩ = some _ := cell_of_row (w12.alloc (.cells #[.int .i64 AL, .slice oL mL cL] 33)) (w1.heap.size) 1 _ _ (0, 0) hxS_12a
      have kX0_12a : (w12.alloc (.cells #[.int .i64 AL, .slice oL mL cL] 33)).cell? ⟨w2.heap.size, 0, none⟩ = some _ := cell_of_row (w12.alloc (.cells #[.int .i64 AL, .slice oL mL cL] 33)) (w2.heap.size) 0 _ _ (0, 0) hxX_12a
      have kX1_12a : (w12.alloc (.cells #[.int .i64 AL, .slice oL mL cL] 33)).cell? ⟨w2.heap.size, 1, none⟩ = some _ := cell_of_row (w12.alloc (.cells #[.int .i64 AL, .slice oL mL cL] 33)) (w2.heap.size) 1 _ _ (0, 0) hxX_12a
      have kY0_12a : (w12.alloc (.cells #[.int .i64 AL, .slice oL mL cL] 33)).cell? ⟨w3.heap.size, 0, none⟩ = some _ := cell_of_row (w12.alloc (.cells #[.int .i64 AL, .slice oL mL cL] 33)) (w3.heap.size) 0 _ _ (0, 0) hxY_12a
      have kY1_12a : (w12.alloc (.cells #[.int .i64 AL, .slice oL mL cL] 33)).cell? ⟨w3.heap.size, 1, none⟩ = some _ := cell_of_row (w12.alloc (.cells #[.int .i64 AL, .slice oL mL cL] 33)) (w3.heap.size) 1 _ _ (0, 0) hxY_12a
      have kL0_12a : (w12.alloc (.cells #[.int .i64 AL, .slice oL mL cL] 33)).cell? ⟨w12.heap.size, 0, none⟩ = some _ := cell_of_row (w12.alloc (.cells #[.int .i64 AL, .slice oL mL cL] 33)) (w12.heap.size) 0 _ _ (0, 0) hxL_12a
      have kL1_12a : (w12.alloc (.cells #[.int .i64 AL, .slice oL mL cL] 33)).cell? ⟨w12.heap.size, 1, none⟩ = some _ := cell_of_row (w12.alloc (.cells #[.int .i64 AL, .slice oL mL cL] 33)) (w12.heap.size) 1 _ _ (0, 0) hxL_12a
      try simp only [List.getElem?_toArray, List.getElem?_cons_zero, List.getElem?_cons_succ] at kS0_12a kS1_12a kX0_12a kX1_12a kY0_12a kY1_12a kL0_12a kL1_12a
      obtain ⟨z2, hz2⟩ : ∃ z, z = (sweptT R1 R2 round ms).2 := ⟨_, rfl⟩
      have hsw := HSX.out (w12.alloc (.cells #[.int .i64 AL, .slice oL mL cL] 33)) R1 round _ (.slice aoV ms.length acV) R2 ms (rdG_owns itW hoX_12a) (rd_owns hoV_12a) (by omega) hsm1.out (by omega) HMI.out
      rw [← hz2] at hsw
      have Hz2 := Lib.hid hz2
      clear hz2
      go_wp2_with fail
      refine (hsw).mono ?_
      rintro e w13 ⟨AA, oA, mA, cA, rfl, hb13⟩
      have hB_13 := hB_12a.trans (hb13.mono hB_12a.size)
      have hs13 := hb13.size
      try rw [World.size_alloc] at hs13
      have hoS_13 := owns_below hoS_12a hb13
      have hoV_13 := owns_below hoV_12a hb13
      have hoX_13 := owns_below hoX_12a hb13
      have hoY_13 := owns_below hoY_12a hb13
      have hoN_13 := owns_below hoN_12a hb13
      have hxS_13 := (hb13.block (w1.heap.size) hlS_12a).trans hxS_12a
      have hlS_13 := Nat.lt_of_lt_of_le hlS_12a hb13.size
      have hxX_13 := (hb13.block (w2.heap.size) hlX_12a).trans hxX_12a
      have hlX_13 := Nat.lt_of_lt_of_le hlX_12a hb13.size
      have hxY_13 := (hb13.block (w3.heap.size) hlY_12a).trans hxY_12a
      have hlY_13 := Nat.lt_of_lt_of_le hlY_12a hb13.size
      have hxL_13 := (hb13.block (w12.heap.size) hlL_12a).trans hxL_12a
      have hlL_13 := Nat.lt_of_lt_of_le hlL_12a hb13.size
      clear hB_12a hoS_12a hoV_12a hoX_12a hoY_12a hoN_12a hxS_12a hlS_12a kS0_12a kS1_12a hxX_12a hlX_12a kX0_12a kX1_12a hxY_12a hlY_12a kY0_12a kY1_12a hxL_12a hlL_12a kL0_12a kL1_12a hb13
      have kS0_13 : (w13).cell? ⟨w1.heap.size, 0, none⟩ = some _ := cell_of_row (w13) (w1.heap.size) 0 _ _ (0, 0) hxS_13
      have kS1_13 : (w13).cell? ⟨w1.heap.size, 1, none⟩ = some _ := cell_of_row (w13) (w1.heap.size) 1 _ _ (0, 0) hxS_13
      have kX0_13 : (w13).cell? ⟨w2.heap.size, 0, none⟩ = some _ := cell_of_row (w13) (w2.heap.size) 0 _ _ (0, 0) hxX_13
      have kX1_13 : (w13).cell? ⟨w2.heap.size, 1, none⟩ = some _ := cell_of_row (w13) (w2.heap.size) 1 _ _ (0, 0) hxX_13
      have kY0_13 : (w13).cell? ⟨w3.heap.size, 0, none⟩ = some _ := cell_of_row (w13) (w3.heap.size) 0 _ _ (0, 0) hxY_13
      have kY1_13 : (w13).cell? ⟨w3.heap.size, 1, none⟩ = some _ := cell_of_row (w13) (w3.heap.size) 1 _ _ (0, 0) hxY_13
      have kL0_13 : (w13).cell? ⟨w12.heap.size, 0, none⟩ = some _ := cell_of_row (w13) (w12.heap.size) 0 _ _ (0, 0) hxL_13
      have kL1_13 : (w13).cell? ⟨w12.heap.size, 1, none⟩ = some _ := cell_of_row (w13) (w12.heap.size) 1 _ _ (0, 0) hxL_13
      try simp only [List.getElem?_toArray, List.getElem?_cons_zero, List.getElem?_cons_succ] at kS0_13 kS1_13 kX0_13 kX1_13 kY0_13 kY1_13 kL0_13 kL1_13
      clear hsw
      have hB_13a : Below w.heap.size w (w13.alloc (.cells #[.int .i64 AA, .slice oA mA cA] 33)) := hB_13.alloc hB_13.size _
      have hoS_13a := hoS_13.alloc (.cells #[.int .i64 AA, .slice oA mA cA] 33)
      have hoV_13a := hoV_13.alloc (.cells #[.int .i64 AA, .slice oA mA cA] 33)
      have hoX_13a := hoX_13.alloc (.cells #[.int .i64 AA, .slice oA mA cA] 33)
      have hoY_13a := hoY_13.alloc (.cells #[.int .i64 AA, .slice oA mA cA] 33)
      have hoN_13a := hoN_13.alloc (.cells #[.int .i64 AA, .slice oA mA cA] 33)
      have hxS_13a : (w13.alloc (.cells #[.int .i64 AA, .slice oA mA cA] 33)).heap[w1.heap.size]? = _ := (heap_alloc_old w13 _ hlS_13).trans hxS_13
      have hlS_13a : w1.heap.size < (w13.alloc (.cells #[.int .i64 AA, .slice oA mA cA] 33)).heap.size := by rw [World.size_alloc]; omega
      have hxX_13a : (w13.alloc (.cells #[.int .i64 AA, .slice oA mA cA] 33)).heap[w2.heap.size]? = _ := (heap_alloc_old w13 _ hlX_13).trans hxX_13
      have hlX_13a : w2.heap.size < (w13.alloc (.cells #[.int .i64 AA, .slice oA mA cA] 33)).heap.size := by rw [World.size_alloc]; omega
      have hxY_13a : (w13.alloc (.cells #[.int .i64 AA, .slice oA mA cA] 33)).heap[w3.heap.size]? = _ := (heap_alloc_old w13 _ hlY_13).trans hxY_13
      have hlY_13a : w3.heap.size < (w13.alloc (.cells #[.int .i64 AA, .slice oA mA cA] 33)).heap.size := by rw [World.size_alloc]; omega
      have hxL_13a : (w13.alloc (.cells #[.int .i64 AA, .slice oA mA cA] 33)).heap[w12.heap.size]? = _ := (heap_alloc_old w13 _ hlL_13).trans hxL_13
      have hlL_13a : w12.heap.size < (w13.alloc (.cells #[.int .i64 AA, .slice oA mA cA] 33)).heap.size := by rw [World.size_alloc]; omega
      clear hB_13 hoS_13 hoV_13 hoX_13 hoY_13 hoN_13 hxS_13 hlS_13 kS0_13 kS1_13 hxX_13 hlX_13 kX0_13 kX1_13 hxY_13 hlY_13 kY0_13 kY1_13 hxL_13 hlL_13 kL0_13 kL1_13
      have hxA_13a : (w13.alloc (.cells #[.int .i64 AA, .slice oA mA cA] 33)).heap[w13.heap.size]? = _ := heap_alloc_new w13 _
      have hlA_13a : w13.heap.size < (w13.alloc (.cells #[.int .i64 AA, .slice oA mA cA] 33)).heap.size := by rw [World.size_alloc]; omega
      have kS0_13a : (w13.alloc (.cells #[.int .i64 AA, .slice oA mA cA] 33)).cell? ⟨w1.heap.size, 0, none⟩ = some _ := cell_of_row (w13.alloc (.cells #[.int .i64 AA, .slice oA mA cA] 33)) (w1.heap.size) 0 _ _ (0, 0) hxS_13a
      have kS1_13a : (w13.alloc (.cells #[.int .i64 AA, .slice oA mA cA] 33)).cell? ⟨w1.heap.size, 1, none⟩ = some _ := cell_of_row (w13.alloc (.cells #[.int .i64 AA, .slice oA mA cA] 33)) (w1.heap.size) 1 _ _ (0, 0) hxS_13a
      have kX0_13a : (w13.alloc (.cells #[.int .i64 AA, .slice oA mA cA] 33)).cell? ⟨w2.heap.size, 0, none⟩ = some _ := cell_of_row (w13.alloc (.cells #[.int .i64 AA, .slice oA mA cA] 33)) (w2.heap.size) 0 _ _ (0, 0) hxX_13a
      have kX1_13a : (w13.alloc (.cells #[.int .i64 AA, .slice oA mA cA] 33)).cell? ⟨w2.heap.size, 1, none⟩ = some _ := cell_of_row (w13.alloc (.cells #[.int .i64 AA, .slice oA mA cA] 33)) (w2.heap.size) 1 _ _ (0, 0) hxX_13a
      have kY0_13a : (w13.alloc (.cells #[.int .i64 AA, .slice oA mA cA] 33)).cell? ⟨w3.heap.size, 0, none⟩ = some _ := cell_of_row (w13.alloc (.cells #[.int .i64 AA, .slice oA mA cA] 33)) (w3.heap.size) 0 _ _ (0, 0) hxY_13a
      have kY1_13a : (w13.alloc (.cells #[.int .i64 AA, .slice oA mA cA] 33)).cell? ⟨w3.heap.size, 1, none⟩ = some _ := cell_of_row (w13.alloc (.cells #[.int .i64 AA, .slice oA mA cA] 33)) (w3.heap.size) 1 _ _ (0, 0) hxY_13a
      have kL0_13a : (w13.alloc (.cells #[.int .i64 AA, .slice oA mA cA] 33)).cell? ⟨w12.heap.size, 0, none⟩ = some _ := cell_of_row (w13.alloc (.cells #[.int .i64 AA, .slice oA mA cA] 33)) (w12.heap.size) 0 _ _ (0, 0) hxL_13a
      have kL1_13a : (w13.alloc (.cells #[.int .i64 AA, .slice oA mA cA] 33)).cell? ⟨w12.heap.size, 1, none⟩ = some _ := cell_of_row (w13.alloc (.cells #[.int .i64 AA, .slice oA mA cA] 33)) (w12.heap.size) 1 _ _ (0, 0) hxL_13a
      have kA0_13a : (w13.alloc (.cells #[.int .i64 AA, .slice oA mA cA] 33)).cell? ⟨w13.heap.size, 0, none⟩ = some _ := cell_of_row (w13.alloc (.cells #[.int .i64 AA, .slice oA mA cA] 33)) (w13.heap.size) 0 _ _ (0, 0) hxA_13a
      have kA1_13a : (w13.alloc (.cells #[.int .i64 AA, .slice oA mA cA] 33)).cell? ⟨w13.heap.size, 1, none⟩ = some _ := cell_of_row (w13.alloc (.cells #[.int .i64 AA, .slice oA mA cA] 33)) (w13.heap.size) 1 _ _ (0, 0) hxA_13a
      try simp only [List.getElem?_toArray, List.getElem?_cons_zero, List.getElem?_cons_succ] at kS0_13a kS1_13a kX0_13a kX1_13a kY0_13a kY1_13a kL0_13a kL1_13a kA0_13a kA1_13a
      have hwr : IntKind.i64.wrap (round - 1) = round - 1 := IntWalk.i64_in _ ⟨by omega, by omega⟩
      obtain ⟨z3, hz3⟩ : ∃ z, z = (sweptT r l (round - 1) ms).2 := ⟨_, rfl⟩
      have hsw := HSX.out (w13.alloc (.cells #[.int .i64 AA, .slice oA mA cA] 33)) r (round - 1) _ (.slice aoV ms.length acV) l ms (rdG_owns itW hoS_13a) (rd_owns hoV_13a) hl12 hsm.out (by omega) HMI.out
      rw [← hz3] at hsw
      have Hz3 := Lib.hid hz3
      clear hz3
      go_wp2_with fail
      refine (hsw).mono ?_
      rintro e w14 ⟨AE, oE, mE, cE, rfl, hb14⟩
      have hB_14 := hB_13a.trans (hb14.mono hB_13a.size)
      have hs14 := hb14.size
      try rw [World.size_alloc] at hs14
      have hoS_14 := owns_below hoS_13a hb14
      have hoV_14 := owns_below hoV_13a hb14
      have hoX_14 := owns_below hoX_13a hb14
      have hoY_14 := owns_below hoY_13a hb14
      have hoN_14 := owns_below hoN_13a hb14
      have hxS_14 := (hb14.block (w1.heap.size) hlS_13a).trans hxS_13a
      have hlS_14 := Nat.lt_of_lt_of_le hlS_13a hb14.size
      have hxX_14 := (hb14.block (w2.heap.size) hlX_13a).trans hxX_13a
      have hlX_14 := Nat.lt_of_lt_of_le hlX_13a hb14.size
      have hxY_14 := (hb14.block (w3.heap.size) hlY_13a).trans hxY_13a
      have hlY_14 := Nat.lt_of_lt_of_le hlY_13a hb14.size
      have hxL_14 := (hb14.block (w12.heap.size) hlL_13a).trans hxL_13a
      have hlL_14 := Nat.lt_of_lt_of_le hlL_13a hb14.size
      have hxA_14 := (hb14.block (w13.heap.size) hlA_13a).trans hxA_13a
      have hlA_14 := Nat.lt_of_lt_of_le hlA_13a hb14.size
      clear hB_13a hoS_13a hoV_13a hoX_13a hoY_13a hoN_13a hxS_13a hlS_13a kS0_13a kS1_13a hxX_13a hlX_13a kX0_13a kX1_13a hxY_13a hlY_13a kY0_13a kY1_13a hxL_13a hlL_13a kL0_13a kL1_13a hxA_13a hlA_13a kA0_13a kA1_13a hb14
      have kS0_14 : (w14).cell? ⟨w1.heap.size, 0, none⟩ = some _ := cell_of_row (w14) (w1.heap.size) 0 _ _ (0, 0) hxS_14
      have kS1_14 : (w14).cell? ⟨w1.heap.size, 1, none⟩ = some _ := cell_of_row (w14) (w1.heap.size) 1 _ _ (0, 0) hxS_14
      have kX0_14 : (w14).cell? ⟨w2.heap.size, 0, none⟩ = some _ := cell_of_row (w14) (w2.heap.size) 0 _ _ (0, 0) hxX_14
      have kX1_14 : (w14).cell? ⟨w2.heap.size, 1, none⟩ = some _ := cell_of_row (w14) (w2.heap.size) 1 _ _ (0, 0) hxX_14
      have kY0_14 : (w14).cell? ⟨w3.heap.size, 0, none⟩ = some _ := cell_of_row (w14) (w3.heap.size) 0 _ _ (0, 0) hxY_14
      have kY1_14 : (w14).cell? ⟨w3.heap.size, 1, none⟩ = some _ := cell_of_row (w14) (w3.heap.size) 1 _ _ (0, 0) hxY_14
      have kL0_14 : (w14).cell? ⟨w12.heap.size, 0, none⟩ = some _ := cell_of_row (w14) (w12.heap.size) 0 _ _ (0, 0) hxL_14
      have kL1_14 : (w14).cell? ⟨w12.heap.size, 1, none⟩ = some _ := cell_of_row (w14) (w12.heap.size) 1 _ _ (0, 0) hxL_14
      have kA0_14 : (w14).cell? ⟨w13.heap.size, 0, none⟩ = some _ := cell_of_row (w14) (w13.heap.size) 0 _ _ (0, 0) hxA_14
      have kA1_14 : (w14).cell? ⟨w13.heap.size, 1, none⟩ = some _ := cell_of_row (w14) (w13.heap.size) 1 _ _ (0, 0) hxA_14
      try simp only [List.getElem?_toArray, List.getElem?_cons_zero, List.getElem?_cons_succ] at kS0_14 kS1_14 kX0_14 kX1_14 kY0_14 kY1_14 kL0_14 kL1_14 kA0_14 kA1_14
      clear hsw
      have hB_14a : Below w.heap.size w (w14.alloc (.cells #[.int .i64 AE, .slice oE mE cE] 33)) := hB_14.alloc hB_14.size _
      have hoS_14a := hoS_14.alloc (.cells #[.int .i64 AE, .slice oE mE cE] 33)
      have hoV_14a := hoV_14.alloc (.cells #[.int .i64 AE, .slice oE mE cE] 33)
      have hoX_14a := hoX_14.alloc (.cells #[.int .i64 AE, .slice oE mE cE] 33)
      have hoY_14a := hoY_14.alloc (.cells #[.int .i64 AE, .slice oE mE cE] 33)
      have hoN_14a := hoN_14.alloc (.cells #[.int .i64 AE, .slice oE mE cE] 33)
      have hxS_14a : (w14.alloc (.cells #[.int .i64 AE, .slice oE mE cE] 33)).heap[w1.heap.size]? = _ := (heap_alloc_old w14 _ hlS_14).trans hxS_14
      have hlS_14a : w1.heap.size < (w14.alloc (.cells #[.int .i64 AE, .slice oE mE cE] 33)).heap.size := by rw [World.size_alloc]; omega
      have hxX_14a : (w14.alloc (.cells #[.int .i64 AE, .slice oE mE cE] 33)).heap[w2.heap.size]? = _ := (heap_alloc_old w14 _ hlX_14).trans hxX_14
      have hlX_14a : w2.heap.size < (w14.alloc (.cells #[.int .i64 AE, .slice oE mE cE] 33)).heap.size := by rw [World.size_alloc]; omega
      have hxY_14a : (w14.alloc (.cells #[.int .i64 AE, .slice oE mE cE] 33)).heap[w3.heap.size]? = _ := (heap_alloc_old w14 _ hlY_14).trans hxY_14
      have hlY_14a : w3.heap.size < (w14.alloc (.cells #[.int .i64 AE, .slice oE mE cE] 33)).heap.size := by rw [World.size_alloc]; omega
      have hxL_14a : (w14.alloc (.cells #[.int .i64 AE, .slice oE mE cE] 33)).heap[w12.heap.size]? = _ := (heap_alloc_old w14 _ hlL_14).trans hxL_14
      have hlL_14a : w12.heap.size < (w14.alloc (.cells #[.int .i64 AE, .slice oE mE cE] 33)).heap.size := by rw [World.size_alloc]; omega
      have hxA_14a : (w14.alloc (.cells #[.int .i64 AE, .slice oE mE cE] 33)).heap[w13.heap.size]? = _ := (heap_alloc_old w14 _ hlA_14).trans hxA_14
      have hlA_14a : w13.heap.size < (w14.alloc (.cells #[.int .i64 AE, .slice oE mE cE] 33)).heap.size := by rw [World.size_alloc]; omega
      clear hB_14 hoS_14 hoV_14 hoX_14 hoY_14 hoN_14 hxS_14 hlS_14 kS0_14 kS1_14 hxX_14 hlX_14 kX0_14 kX1_14 hxY_14 hlY_14 kY0_14 kY1_14 hxL_14 hlL_14 kL0_14 kL1_14 hxA_14 hlA_14 kA0_14 kA1_14
      have hxE_14a : (w14.alloc (.cells #[.int .i64 AE, .slice oE mE cE] 33)).heap[w14.heap.size]? = _ := heap_alloc_new w14 _
      have hlE_14a : w14.heap.size < (w14.alloc (.cells #[.int .i64 AE, .slice oE mE cE] 33)).heap.size := by rw [World.size_alloc]; omega
      have kS0_14a : (w14.alloc (.cells #[.int .i64 AE, .slice oE mE cE] 33)).cell? ⟨w1.heap.size, 0, none⟩ = some _ := cell_of_row (w14.alloc (.cells #[.int .i64 AE, .slice oE mE cE] 33)) (w1.heap.size) 0 _ _ (0, 0) hxS_14a
      have kS1_14a : (w14.alloc (.cells #[.int .i64 AE, .slice oE mE cE] 33)).cell? ⟨w1.heap.size, 1, none⟩ = some _ := cell_of_row (w14.alloc (.cells #[.int .i64 AE, .slice oE mE cE] 33)) (w1.heap.size) 1 _ _ (0, 0) hxS_14a
      have kX0_14a : (w14.alloc (.cells #[.int .i64 AE, .slice oE mE cE] 33)).cell? ⟨w2.heap.size, 0, none⟩ = some _ := cell_of_row (w14.alloc (.cells #[.int .i64 AE, .slice oE mE cE] 33)) (w2.heap.size) 0 _ _ (0, 0) hxX_14a
      have kX1_14a : (w14.alloc (.cells #[.int .i64 AE, .slice oE mE cE] 33)).cell? ⟨w2.heap.size, 1, none⟩ = some _ := cell_of_row (w14.alloc (.cells #[.int .i64 AE, .slice oE mE cE] 33)) (w2.heap.size) 1 _ _ (0, 0) hxX_14a
      have kY0_14a : (w14.alloc (.cells #[.int .i64 AE, .slice oE mE cE] 33)).cell? ⟨w3.heap.size, 0, none⟩ = some _ := cell_of_row (w14.alloc (.cells #[.int .i64 AE, .slice oE mE cE] 33)) (w3.heap.size) 0 _ _ (0, 0) hxY_14a
      have kY1_14a : (w14.alloc (.cells #[.int .i64 AE, .slice oE mE cE] 33)).cell? ⟨w3.heap.size, 1, none⟩ = some _ := cell_of_row (w14.alloc (.cells #[.int .i64 AE, .slice oE mE cE] 33)) (w3.heap.size) 1 _ _ (0, 0) hxY_14a
      have kL0_14a : (w14.alloc (.cells #[.int .i64 AE, .slice oE mE cE] 33)).cell? ⟨w12.heap.size, 0, none⟩ = some _ := cell_of_row (w14.alloc (.cells #[.int .i64 AE, .slice oE mE cE] 33)) (w12.heap.size) 0 _ _ (0, 0) hxL_14a
      have kL1_14a : (w14.alloc (.cells #[.int .i64 AE, .slice oE mE cE] 33)).cell? ⟨w12.heap.size, 1, none⟩ = some _ := cell_of_row (w14.alloc (.cells #[.int .i64 AE, .slice oE mE cE] 33)) (w12.heap.size) 1 _ _ (0, 0) hxL_14a
      have kA0_14a : (w14.alloc (.cells #[.int .i64 AE, .slice oE mE cE] 33)).cell? ⟨w13.heap.size, 0, none⟩ = some _ := cell_of_row (w14.alloc (.cells #[.int .i64 AE, .slice oE mE cE] 33)) (w13.heap.size) 0 _ _ (0, 0) hxA_14a
      have kA1_14a : (w14.alloc (.cells #[.int .i64 AE, .slice oE mE cE] 33)).cell? ⟨w13.heap.size, 1, none⟩ = some _ := cell_of_row (w14.alloc (.cells #[.int .i64 AE, .slice oE mE cE] 33)) (w13.heap.size) 1 _ _ (0, 0) hxA_14a
      have kE0_14a : (w14.alloc (.cells #[.int .i64 AE, .slice oE mE cE] 33)).cell? ⟨w14.heap.size, 0, none⟩ = some _ := cell_of_row (w14.alloc (.cells #[.int .i64 AE, .slice oE mE cE] 33)) (w14.heap.size) 0 _ _ (0, 0) hxE_14a
      have kE1_14a : (w14.alloc (.cells #[.int .i64 AE, .slice oE mE cE] 33)).cell? ⟨w14.heap.size, 1, none⟩ = some _ := cell_of_row (w14.alloc (.cells #[.int .i64 AE, .slice oE mE cE] 33)) (w14.heap.size) 1 _ _ (0, 0) hxE_14a
      try simp only [List.getElem?_toArray, List.getElem?_cons_zero, List.getElem?_cons_succ] at kS0_14a kS1_14a kX0_14a kX1_14a kY0_14a kY1_14a kL0_14a kL1_14a kA0_14a kA1_14a kE0_14a kE1_14a
      obtain ⟨z4, hz4⟩ : ∃ z, z = (sweptT r l round []).2 := ⟨_, rfl⟩
      have hsw := HSX.out (w14.alloc (.cells #[.int .i64 AE, .slice oE mE cE] 33)) r round _ (.slice none 0 0) l [] (rdG_owns itW hoS_14a) ⟨none, 0, rfl, Nat.le_refl _, fun h => absurd rfl h⟩ hl12 hsm.out (by decide) (fun d hd => by cases hd)
      rw [← hz4] at hsw
      have Hz4 := Lib.hid hz4
      clear hz4
      go_wp2_with fail
      refine (hsw).mono ?_
      rintro e w15 ⟨AN, oN, mN, cN, rfl, hb15⟩
      have hB_15 := hB_14a.trans (hb15.mono hB_14a.size)
      have hs15 := hb15.size
      try rw [World.size_alloc] at hs15
      have hoS_15 := owns_below hoS_14a hb15
      have hoV_15 := owns_below hoV_14a hb15
      have hoX_15 := owns_below hoX_14a hb15
      have hoY_15 := owns_below hoY_14a hb15
      have hoN_15 := owns_below hoN_14a hb15
      have hxS_15 := (hb15.block (w1.heap.size) hlS_14a).trans hxS_14a
      have hlS_15 := Nat.lt_of_lt_of_le hlS_14a hb15.size
      have hxX_15 := (hb15.block (w2.heap.size) hlX_14a).trans hxX_14a
      have hlX_15 := Nat.lt_of_lt_of_le hlX_14a hb15.size
      have hxY_15 := (hb15.block (w3.heap.size) hlY_14a).trans hxY_14a
      have hlY_15 := Nat.lt_of_lt_of_le hlY_14a hb15.size
      have hxL_15 := (hb15.block (w12.heap.size) hlL_14a).trans hxL_14a
      have hlL_15 := Nat.lt_of_lt_of_le hlL_14a hb15.size
      have hxA_15 := (hb15.block (w13.heap.size) hlA_14a).trans hxA_14a
      have hlA_15 := Nat.lt_of_lt_of_le hlA_14a hb15.size
      have hxE_15 := (hb15.block (w14.heap.size) hlE_14a).trans hxE_14a
      have hlE_15 := Nat.lt_of_lt_of_le hlE_14a hb15.size
      clear hB_14a hoS_14a hoV_14a hoX_14a hoY_14a hoN_14a hxS_14a hlS_14a kS0_14a kS1_14a hxX_14a hlX_14a kX0_14a kX1_14a hxY_14a hlY_14a kY0_14a kY1_14a hxL_14a hlL_14a kL0_14a kL1_14a hxA_14a hlA_14a kA0_14a kA1_14a hxE_14a hlE_14a kE0_14a kE1_14a hb15
      have kS0_15 : (w15).cell? ⟨w1.heap.size, 0, none⟩ = some _ := cell_of_row (w15) (w1.heap.size) 0 _ _ (0, 0) hxS_15
      have kS1_15 : (w15).cell? ⟨w1.heap.size, 1, none⟩ = some _ := cell_of_row (w15) (w1.heap.size) 1 _ _ (0, 0) hxS_15
      have kX0_15 : (w15).cell? ⟨w2.heap.size, 0, none⟩ = some _ := cell_of_row (w15) (w2.heap.size) 0 _ _ (0, 0) hxX_15
      have kX1_15 : (w15).cell? ⟨w2.heap.size, 1, none⟩ = some _ := cell_of_row (w15) (w2.heap.size) 1 _ _ (0, 0) hxX_15
      have kY0_15 : (w15).cell? ⟨w3.heap.size, 0, none⟩ = some _ := cell_of_row (w15) (w3.heap.size) 0 _ _ (0, 0) hxY_15
      have kY1_15 : (w15).cell? ⟨w3.heap.size, 1, none⟩ = some _ := cell_of_row (w15) (w3.heap.size) 1 _ _ (0, 0) hxY_15
      have kL0_15 : (w15).cell? ⟨w12.heap.size, 0, none⟩ = some _ := cell_of_row (w15) (w12.heap.size) 0 _ _ (0, 0) hxL_15
      have kL1_15 : (w15).cell? ⟨w12.heap.size, 1, none⟩ = some _ := cell_of_row (w15) (w12.heap.size) 1 _ _ (0, 0) hxL_15
      have kA0_15 : (w15).cell? ⟨w13.heap.size, 0, none⟩ = some _ := cell_of_row (w15) (w13.heap.size) 0 _ _ (0, 0) hxA_15
      have kA1_15 : (w15).cell? ⟨w13.heap.size, 1, none⟩ = some _ := cell_of_row (w15) (w13.heap.size) 1 _ _ (0, 0) hxA_15
      have kE0_15 : (w15).cell? ⟨w14.heap.size, 0, none⟩ = some _ := cell_of_row (w15) (w14.heap.size) 0 _ _ (0, 0) hxE_15
      have kE1_15 : (w15).cell? ⟨w14.heap.size, 1, none⟩ = some _ := cell_of_row (w15) (w14.heap.size) 1 _ _ (0, 0) hxE_15
      try simp only [List.getElem?_toArray, List.getElem?_cons_zero, List.getElem?_cons_succ] at kS0_15 kS1_15 kX0_15 kX1_15 kY0_15 kY1_15 kL0_15 kL1_15 kA0_15 kA1_15 kE0_15 kE1_15
      clear hsw
      have hB_15a : Below w.heap.size w (w15.alloc (.cells #[.int .i64 AN, .slice oN mN cN] 33)) := hB_15.alloc hB_15.size _
      have hoS_15a := hoS_15.alloc (.cells #[.int .i64 AN, .slice oN mN cN] 33)
      have hoV_15a := hoV_15.alloc (.cells #[.int .i64 AN, .slice oN mN cN] 33)
      have hoX_15a := hoX_15.alloc (.cells #[.int .i64 AN, .slice oN mN cN] 33)
      have hoY_15a := hoY_15.alloc (.cells #[.int .i64 AN, .slice oN mN cN] 33)
      have hoN_15a := hoN_15.alloc (.cells #[.int .i64 AN, .slice oN mN cN] 33)
      have hxS_15a : (w15.alloc (.cells #[.int .i64 AN, .slice oN mN cN] 33)).heap[w1.heap.size]? = _ := (heap_alloc_old w15 _ hlS_15).trans hxS_15
      have hlS_15a : w1.heap.size < (w15.alloc (.cells #[.int .i64 AN, .slice oN mN cN] 33)).heap.size := by rw [World.size_alloc]; omega
      have hxX_15a : (w15.alloc (.cells #[.int .i64 AN, .slice oN mN cN] 33)).heap[w2.heap.size]? = _ := (heap_alloc_old w15 _ hlX_15).trans hxX_15
      have hlX_15a : w2.heap.size < (w15.alloc (.cells #[.int .i64 AN, .slice oN mN cN] 33)).heap.size := by rw [World.size_alloc]; omega
      have hxY_15a : (w15.alloc (.cells #[.int .i64 AN, .slice oN mN cN] 33)).heap[w3.heap.size]? = _ := (heap_alloc_old w15 _ hlY_15).trans hxY_15
      have hlY_15a : w3.heap.size < (w15.alloc (.cells #[.int .i64 AN, .slice oN mN cN] 33)).heap.size := by rw [World.size_alloc]; omega
      have hxL_15a : (w15.alloc (.cells #[.int .i64 AN, .slice oN mN cN] 33)).heap[w12.heap.size]? = _ := (heap_alloc_old w15 _ hlL_15).trans hxL_15
      have hlL_15a : w12.heap.size < (w15.alloc (.cells #[.int .i64 AN, .slice oN mN cN] 33)).heap.size := by rw [World.size_alloc]; omega
      have hxA_15a : (w15.alloc (.cells #[.int .i64 AN, .slice oN mN cN] 33)).heap[w13.heap.size]? = _ := (heap_alloc_old w15 _ hlA_15).trans hxA_15
      have hlA_15a : w13.heap.size < (w15.alloc (.cells #[.int .i64 AN, .slice oN mN cN] 33)).heap.size := by rw [World.size_alloc]; omega
      have hxE_15a : (w15.alloc (.cells #[.int .i64 AN, .slice oN mN cN] 33)).heap[w14.heap.size]? = _ := (heap_alloc_old w15 _ hlE_15).trans hxE_15
      have hlE_15a : w14.heap.size < (w15.alloc (.cells #[.int .i64 AN, .slice oN mN cN] 33)).heap.size := by rw [World.size_alloc]; omega
      clear hB_15 hoS_15 hoV_15 hoX_15 hoY_15 hoN_15 hxS_15 hlS_15 kS0_15 kS1_15 hxX_15 hlX_15 kX0_15 kX1_15 hxY_15 hlY_15 kY0_15 kY1_15 hxL_15 hlL_15 kL0_15 kL1_15 hxA_15 hlA_15 kA0_15 kA1_15 hxE_15 hlE_15 kE0_15 kE1_15
      have hxN_15a : (w15.alloc (.cells #[.int .i64 AN, .slice oN mN cN] 33)).heap[w15.heap.size]? = _ := heap_alloc_new w15 _
      have hlN_15a : w15.heap.size < (w15.alloc (.cells #[.int .i64 AN, .slice oN mN cN] 33)).heap.size := by rw [World.size_alloc]; omega
      have kS0_15a : (w15.alloc (.cells #[.int .i64 AN, .slice oN mN cN] 33)).cell? ⟨w1.heap.size, 0, none⟩ = some _ := cell_of_row (w15.alloc (.cells #[.int .i64 AN, .slice oN mN cN] 33)) (w1.heap.size) 0 _ _ (0, 0) hxS_15a
      have kS1_15a : (w15.alloc (.cells #[.int .i64 AN, .slice oN mN cN] 33)).cell? ⟨w1.heap.size, 1, none⟩ = some _ := cell_of_row (w15.alloc (.cells #[.int .i64 AN, .slice oN mN cN] 33)) (w1.heap.size) 1 _ _ (0, 0) hxS_15a
      have kX0_15a : (w15.alloc (.cells #[.int .i64 AN, .slice oN mN cN] 33)).cell? ⟨w2.heap.size, 0, none⟩ = some _ := cell_of_row (w15.alloc (.cells #[.int .i64 AN, .slice oN mN cN] 33)) (w2.heap.size) 0 _ _ (0, 0) hxX_15a
      have kX1_15a : (w15.alloc (.cells #[.int .i64 AN, .slice oN mN cN] 33)).cell? ⟨w2.heap.size, 1, none⟩ = some _ := cell_of_row (w15.alloc (.cells #[.int .i64 AN, .slice oN mN cN] 33)) (w2.heap.size) 1 _ _ (0, 0) hxX_15a
      have kY0_15a : (w15.alloc (.cells #[.int .i64 AN, .slice oN mN cN] 33)).cell? ⟨w3.heap.size, 0, none⟩ = some _ := cell_of_row (w15.alloc (.cells #[.int .i64 AN, .slice oN mN cN] 33)) (w3.heap.size) 0 _ _ (0, 0) hxY_15a
      have kY1_15a : (w15.alloc (.cells #[.int .i64 AN, .slice oN mN cN] 33)).cell? ⟨w3.heap.size, 1, none⟩ = some _ := cell_of_row (w15.alloc (.cells #[.int .i64 AN, .slice oN mN cN] 33)) (w3.heap.size) 1 _ _ (0, 0) hxY_15a
      have kL0_15a : (w15.alloc (.cells #[.int .i64 AN, .slice oN mN cN] 33)).cell? ⟨w12.heap.size, 0, none⟩ = some _ := cell_of_row (w15.alloc (.cells #[.int .i64 AN, .slice oN mN cN] 33)) (w12.heap.size) 0 _ _ (0, 0) hxL_15a
      have kL1_15a : (w15.alloc (.cells #[.int .i64 AN, .slice oN mN cN] 33)).cell? ⟨w12.heap.size, 1, none⟩ = some _ := cell_of_row (w15.alloc (.cells #[.int .i64 AN, .slice oN mN cN] 33)) (w12.heap.size) 1 _ _ (0, 0) hxL_15a
      have kA0_15a : (w15.alloc (.cells #[.int .i64 AN, .slice oN mN cN] 33)).cell? ⟨w13.heap.size, 0, none⟩ = some _ := cell_of_row (w15.alloc (.cells #[.int .i64 AN, .slice oN mN cN] 33)) (w13.heap.size) 0 _ _ (0, 0) hxA_15a
      have kA1_15a : (w15.alloc (.cells #[.int .i64 AN, .slice oN mN cN] 33)).cell? ⟨w13.heap.size, 1, none⟩ = some _ := cell_of_row (w15.alloc (.cells #[.int .i64 AN, .slice oN mN cN] 33)) (w13.heap.size) 1 _ _ (0, 0) hxA_15a
      have kE0_15a : (w15.alloc (.cells #[.int .i64 AN, .slice oN mN cN] 33)).cell? ⟨w14.heap.size, 0, none⟩ = some _ := cell_of_row (w15.alloc (.cells #[.int .i64 AN, .slice oN mN cN] 33)) (w14.heap.size) 0 _ _ (0, 0) hxE_15a
      have kE1_15a : (w15.alloc (.cells #[.int .i64 AN, .slice oN mN cN] 33)).cell? ⟨w14.heap.size, 1, none⟩ = some _ := cell_of_row (w15.alloc (.cells #[.int .i64 AN, .slice oN mN cN] 33)) (w14.heap.size) 1 _ _ (0, 0) hxE_15a
      have kN0_15a : (w15.alloc (.cells #[.int .i64 AN, .slice oN mN cN] 33)).cell? ⟨w15.heap.size, 0, none⟩ = some _ := cell_of_row (w15.alloc (.cells #[.int .i64 AN, .slice oN mN cN] 33)) (w15.heap.size) 0 _ _ (0, 0) hxN_15a
      have kN1_15a : (w15.alloc (.cells #[.int .i64 AN, .slice oN mN cN] 33)).cell? ⟨w15.heap.size, 1, none⟩ = some _ := cell_of_row (w15.alloc (.cells #[.int .i64 AN, .slice oN mN cN] 33)) (w15.heap.size) 1 _ _ (0, 0) hxN_15a
      try simp only [List.getElem?_toArray, List.getElem?_cons_zero, List.getElem?_cons_succ] at kS0_15a kS1_15a kX0_15a kX1_15a kY0_15a kY1_15a kL0_15a kL1_15a kA0_15a kA1_15a kE0_15a kE1_15a kN0_15a kN1_15a
      rw [← Hz3.out] at q0
      rw [← Hz4.out] at q1
      rw [← Hz2.out] at q3
      have HB := Lib.hid hB_15a
      clear hB_15a hoS_15a hoV_15a hoX_15a hoY_15a hoN_15a hxS_15a hlS_15a kS0_15a kS1_15a hxX_15a hlX_15a kX0_15a kX1_15a hxY_15a hlY_15a kY0_15a kY1_15a hxL_15a hlL_15a kL0_15a kL1_15a hxA_15a hlA_15a kA0_15a kA1_15a hxE_15a hlE_15a kE0_15a kE1_15a hxN_15a hlN_15a kN0_15a kN1_15a
      have hw3 : IntKind.i64.wrap (R3 - 1) = R3 - 1 := IntWalk.i64_in _ ⟨by omega, by omega⟩
      have g1 : z1 ≤ R3 ∧ R3 - 1 ≤ z1 := by rw [Hz1.out]; exact hq2.out
      clear Hz1 Hz2 Hz3 Hz4
      go_wp2
      go_ret
      exact ⟨rfl, HB.out⟩

set_option maxRecDepth 100000 in
theorem lifted (os : Os) (started : os.Started) (H : Type) (enc : TypeId × Value → H) :
    ReturnsInHanded {} Try.checked os 4 .any (Rows.fnSweepsSpec.pre6 enc Try.prog Try.f4 Rows.fnSweepsRow.domain false) (Rows.fnSweepsSpec.post enc Try.prog Try.f4 false true false false) := by
  refine returnsInHanded_of_change (C := Try.checked) own started (by kernel_rfl) Try.func4
    (ChangeSpec.witness6 (enc := enc) (C := Try.checked) false ⟨#[], #[.slice none 0 0], []⟩ 8 (by kernel_rfl) (by kernel_rfl) (by kernel_rfl) (by kernel_rfl)) ?_
  intro W base args ds gs before hval0 hW hcnd _
  have hval : ∀ (j : Nat) t v, Try.f4.params[j]? = some t → args[j]? = some v → Value.okWide Try.prog W .any base t v := hval0
  have hW' := hW
  obtain ⟨p, q, hA0, hV, rfl, hfz, hnd⟩ := hW
  have hA : DataW.TrodAll enc Try.prog W 0 (fun _ => true) true Try.f4.params.toList args.toList ds p := hA0
  rw [Try.params4] at hA hval
  obtain ⟨v0, vs0, d0, ds0, p0, q0, hargs0, rfl, rfl, h0, r0⟩ := trodAll_cons hA
  obtain ⟨rfl, rfl, rfl⟩ := trodAll_nil r0
  obtain rfl : args = #[v0] := by cases args; simp_all
  obtain ⟨rfl, rfl⟩ := trodVars_none hV
  obtain ⟨a0, len0, cap0, rfl⟩ := okWide_slice Try.underlying22 (hval 0 22 v0 rfl rfl)
  have k0 := h0
  have lt0 : ∀ x ∈ p0, x.block < W.heap.size := by obtain ⟨m, hm⟩ := k0; exact DataW.trod_lt m _ _ _ hm
  obtain ⟨zs0, hr0, hs0⟩ : ∃ zs : List Int, Rd W (.slice a0 len0 cap0) (zs.map (Value.int .u8)) ∧ ((∀ n ∈ zs, (Lit.int .u8 n).wf = true) ∧ zs.length ≤ 9223372036854775807) := by
    obtain ⟨fuel, hf⟩ := h0
    rcases open_ints Try.underlying22 Try.underlying5 (by kernel_rfl) hf with ⟨hcs, _⟩ | ⟨x, l, c, zs, hcs, _, hl, hm, hz, _, hcell, hwz⟩
    · simp [Value.cells] at hcs
      obtain ⟨rfl, rfl, rfl⟩ := hcs
      exact ⟨[], ⟨none, 0, rfl, Nat.le_refl _, fun h => absurd rfl h⟩, (fun x hx => absurd hx List.not_mem_nil), Nat.zero_le _⟩
    · simp [Value.cells] at hcs
      obtain ⟨rfl, rfl, rfl⟩ := hcs
      exact arg_ints .u8 hl hm (by simpa using hz) hcell hwz
  clear hA0 hval0
  refine (walk _ zs0 W hr0 (wf_bytes hs0.1) hs0.2).mono fun e W' ⟨he, bel⟩ => ?_
  subst he
  exact ⟨_, rfl, _, _, _, [], _, [], hW', trodAll_mk1 (shut_bool Try.underlying4 _), (trodAll_cons_mk (Below.trod laidOut (by kernel_rfl) (of_decide_eq_true (by kernel_rfl)) k0 bel lt0) trodAll_mk0), rfl, bel.frame _, fun h => by cases h⟩

theorem over : Rows.fnSweepsRow.holds Try.pinned (OpenSpec.ofChange Rows.fnSweepsSpec) :=
  OpenClaim.holds_of_wide 4 Try.f4 rfl rfl rfl rfl rfl rfl rfl ⟨rfl, rfl, rfl, rfl, rfl⟩ rfl rfl rfl rfl rfl (by kernel_rfl) Try.func4 (by kernel_rfl)
    (of_decide_eq_true (by kernel_rfl)) (by unfold Func.isWrapper; first | (rw [if_pos (by decide +kernel)]; kernel_rfl) | (rw [if_neg (by decide +kernel)]; exact ⟨rfl, rfl⟩))
    (fun os started H enc _ => lifted os started H enc)

theorem proved : Rows.FnSweepsSaid := over
end Go.Proofs.Ytfoncmeplofedaf.fnSweeps
