/- CONTRACTS: what is drawn for rings: spec.l1From, l11DrawNodes, DrawNewRing, l11DrawKey: whatever the code, some few numbers. -/
import Derived.Test.YtidmaaglfckcbafDoorDraw
import Derived.Test.YtidmaaglfckcbafDoorQue
import Derived.Lib.Hide
import Derived.Deep.RegionHeld
import Derived.Deep.RegionLaw
namespace Go.Proofs.YtidmaaglfckcbafDoor
open Go.RowKit
set_option linter.unusedVariables false
theorem bytes_allQ {bs : List Int} (h : Bytes bs) : ∀ j, 0 ≤ bs.getD j 0 ∧ bs.getD j 0 ≤ 255 := fun j => bytes_get h j
theorem below_of_ownQ {w2 w3 : World} {row : Option Nat} {cb B : Nat} (hg : w2.grownBy w3 row) (hcb : cb < w2.heap.size) (hr : ∀ g, row = some g → B ≤ g) (hB : cb < B) : Below (cb + 1) w2 w3 :=
  ⟨hg.os, hg.tape, hg.output, hg.size, fun k hk => hg.block k (by omega) (fun e => by have := hr k e.symm; omega)⟩
theorem fromQ_any (cb : Nat) (v : Value) (bs : List Int) (lo hi : Int) (w : World) (hst : St w cb v bs) (hl : bs.length ≤ 4096) (hz : ∀ j, 0 ≤ bs.getD j 0 ∧ bs.getD j 0 ≤ 255) (h0 : -1000 ≤ lo) (h1 : lo ≤ hi) (h2 : hi ≤ 100000) :
    Calls Tryd.prog 34 #[.pointer (some ⟨cb, 0, none⟩), .int .i64 lo, .int .i64 hi] w fun e w' => ∃ r : Int, e = .returned (.int .i64 r) ∧ lo ≤ r ∧ r ≤ hi ∧ St w' cb v bs ∧ w.grownBy w' (some cb) := by
  go_enter Tryd.func34, Tryd.ntmps34
  go_wp2_with fail
  refine (below_any cb v bs (hi - lo + 1) w hst hl hz (by omega)).mono ?_
  rintro e w1 ⟨r, rfl, hr0, hr1, _, hst1, hg1⟩
  have hr2 := hr1 (by omega)
  have HST : Hid (St w1 cb v bs) := hst1
  clear hst hst1 hz hr1
  go_wp2
  go_ret
  exact ⟨lo + r, rfl, by omega, by omega, HST.out, hg1⟩
set_option maxHeartbeats 1000000 in
set_option maxRecDepth 100000 in
theorem drawNodes_any (cb : Nat) (v : Value) (bs : List Int) (w : World) (hst : St w cb v bs) (hl : bs.length ≤ 4096) (hz : ∀ j, 0 ≤ bs.getD j 0 ∧ bs.getD j 0 ≤ 255) :
    Calls Tryd.prog 18 #[.pointer (some ⟨cb, 0, none⟩)] w fun e w' => ∃ (v' : Value) (xs : List Int), e = .returned v' ∧ xs.length ≤ 7 ∧ (∀ x ∈ xs, -1 ≤ x ∧ x ≤ 18) ∧ w'.ownsRow w.heap.size 2 1 v' xs.length (cellsInt64S xs) ∧ St w' cb v bs ∧ w.grownBy w' (some cb) := by
  have hcb := st_lt hst
  have hst0 : St (w.alloc (.cells #[] 2)) cb v bs := st_below hst ((Below.refl _ _).alloc (by omega) _)
  have HZ : Hid (∀ j, 0 ≤ bs.getD j 0 ∧ bs.getD j 0 ≤ 255) := hz
  have hmade : (w.alloc (.cells #[] 2)).ownsRow w.heap.size 2 1 (.slice (some ⟨w.heap.size, 0, none⟩) 0 0) ([] : List Int).length (cellsInt64S []) := World.ownsRow_lit w #[] 0 (Nat.le_refl _) (Nat.zero_le _) rfl
  have hg0 : w.grownBy (w.alloc (.cells #[] 2)) (some cb) := World.grownBy_alloc w _ _
  have HST0 := Lib.hid hst0
  clear hz hst hst0
  go_enter Tryd.func18, Tryd.ntmps18
  go_wp2
  go_loopw [3, 4] (fun b q wr => ∃ (m : Nat) (acc : List Int), q = .int .i64 (m : Int) ∧ m ≤ 6 ∧ acc.length ≤ m ∧ Hid (∀ x ∈ acc, -1 ≤ x ∧ x ≤ 18) ∧ wr.ownsRow w.heap.size 2 1 b acc.length (cellsInt64S acc) ∧ Hid (St wr cb v bs) ∧ w.grownBy wr (some cb)) (fun _ q _ => 6 - (intOf q).toNat)
  case atStart => exact ⟨0, [], rfl, Nat.zero_le _, Nat.le_refl _, (fun x hx => by cases hx), hmade, HST0, hg0⟩
  case round =>
    rename World => wr
    obtain ⟨m, acc, rfl, hm, hal, hrg, ho, hst2, hg2⟩ := hrel
    have hs := hg2.size
    clear hmade hg0 HST0
    by_cases hlt : m < 6
    · go_wp2_with fail
      refine (once_any cb v bs 3 _ hst2.out hl HZ.out (by omega)).mono ?_
      rintro e w2 ⟨r, rfl, hst3, hg3⟩
      have ho2 := owns_grown ho hg3 (fun k hk h => by cases hk; have := (ho.lt cb h).1; omega)
      have hg3w := grown_trans hg2 hg3
      have hs3 := hg3w.size
      have HST3 : Hid (St w2 cb v bs) := hst3
      clear hst3 ho hg2 hg3 hst2
      cases r with
      | true =>
        have HO2 := Lib.hid ho2
        clear ho2
        go_wp2
        go_roundw
        case rel => exact ⟨m + 1, acc, by go_num, by omega, by omega, hrg, HO2.out, HST3, hg3w⟩
        case measure => simp [intOf]; omega
      | false =>
        have hra := (World.ownsRow_lit (base := w2.heap.size) (e := 2) (size := 1) w2 #[.int .i64 (m : Int)] 1 (Nat.le_refl _) (by unfold maxLen; omega) rfl : (w2.alloc (.cells #[.int .i64 (m : Int)] 2)).ownsRow w2.heap.size 2 1 (.slice (some ⟨w2.heap.size, 0, none⟩) 1 1) 1 (cellsInt64S [(m : Int)]))
        have hoa := ho2.alloc (.cells #[.int .i64 (m : Int)] 2)
        have hga : w.grownBy (w2.alloc (.cells #[.int .i64 (m : Int)] 2)) (some cb) := grown_trans hg3w (World.grownBy_alloc w2 _ _)
        have HSTA : Hid (St (w2.alloc (.cells #[.int .i64 (m : Int)] 2)) cb v bs) := st_below HST3.out ((Below.refl (cb + 1) w2).alloc (by omega) _)
        have hrq := rd_owns hra
        have hsa : w.heap.size ≤ (w2.alloc (.cells #[.int .i64 (m : Int)] 2)).heap.size := by rw [World.size_alloc]; omega
        have HRG : Hid (∀ x ∈ acc ++ [(m : Int)], -1 ≤ x ∧ x ≤ 18) := fun x hx => by
          rcases List.mem_append.1 hx with h | h
          · exact hrg.out x h
          · rw [List.mem_singleton.1 h]; omega
        clear ho2 hra hg3w HST3
        obtain ⟨av, cv, hvv⟩ := owns_slice hoa
        subst hvv
        go_wp2_with (at_builtin; refine own_step rfl _ _ rfl w.heap.size _ (.slice (some ⟨w2.heap.size, 0, none⟩) 1 1) acc [(m : Int)] rfl rfl hoa hrq (by simp; omega) hsa ?_)
        intro v20 w20 ho20 hg20 hi20
        have hgo : w.grownBy w20 (some cb) := grown_own hga hg20 (fun g h => (hoa.lt g h).1)
        have HST4 : Hid (St w20 cb v bs) := st_below HSTA.out (below_of_ownQ hg20 (st_lt HSTA.out) (fun g h => (hoa.lt g h).1) hcb)
        have HO20 := Lib.hid ho20
        clear ho20 hg20 hi20 hoa hga HSTA hrq
        go_wp2
        go_roundw
        case rel => exact ⟨m + 1, acc ++ [(m : Int)], by go_num, by omega, by simp; omega, HRG, by simpa using HO20.out, HST4, hgo⟩
        case measure => simp [intOf]; omega
    · go_wp2_with fail
      refine (once_any cb v bs 12 _ hst2.out hl HZ.out (by omega)).mono ?_
      rintro e w2 ⟨r, rfl, hst3, hg3⟩
      have ho2 := owns_grown ho hg3 (fun k hk h => by cases hk; have := (ho.lt cb h).1; omega)
      have hg3w := grown_trans hg2 hg3
      have hs3 := hg3w.size
      have HST3 : Hid (St w2 cb v bs) := hst3
      clear hst3 ho hg2 hg3 hst2
      cases r with
      | false =>
        have HO2 := Lib.hid ho2
        clear ho2
        go_wp2
        go_ret
        exact ⟨_, acc, rfl, by omega, hrg.out, HO2.out, HST3.out, hg3w⟩
      | true =>
        go_wp2_with fail
        refine (fromQ_any cb v bs (-1) 18 _ HST3.out hl HZ.out (by omega) (by omega) (by omega)).mono ?_
        rintro e w3 ⟨x, rfl, hx0, hx1, hst4, hg4⟩
        have ho3 := owns_grown ho2 hg4 (fun k hk h => by cases hk; have := (ho2.lt cb h).1; omega)
        have hg4w := grown_trans hg3w hg4
        have hs4 := hg4w.size
        have hra := (World.ownsRow_lit (base := w3.heap.size) (e := 2) (size := 1) w3 #[.int .i64 x] 1 (Nat.le_refl _) (by unfold maxLen; omega) rfl : (w3.alloc (.cells #[.int .i64 x] 2)).ownsRow w3.heap.size 2 1 (.slice (some ⟨w3.heap.size, 0, none⟩) 1 1) 1 (cellsInt64S [x]))
        have hoa := ho3.alloc (.cells #[.int .i64 x] 2)
        have hga : w.grownBy (w3.alloc (.cells #[.int .i64 x] 2)) (some cb) := grown_trans hg4w (World.grownBy_alloc w3 _ _)
        have HSTA : Hid (St (w3.alloc (.cells #[.int .i64 x] 2)) cb v bs) := st_below hst4 ((Below.refl (cb + 1) w3).alloc (by omega) _)
        have hrq := rd_owns hra
        have hsa : w.heap.size ≤ (w3.alloc (.cells #[.int .i64 x] 2)).heap.size := by rw [World.size_alloc]; omega
        have HRG : Hid (∀ y ∈ acc ++ [x], -1 ≤ y ∧ y ≤ 18) := fun y hy => by
          rcases List.mem_append.1 hy with h | h
          · exact hrg.out y h
          · rw [List.mem_singleton.1 h]; omega
        clear ho2 ho3 hra hg3w hg4w HST3 hst4 hg4
        obtain ⟨av, cv, hvv⟩ := owns_slice hoa
        subst hvv
        go_wp2_with (at_builtin; refine own_step rfl _ _ rfl w.heap.size _ (.slice (some ⟨w3.heap.size, 0, none⟩) 1 1) acc [x] rfl rfl hoa hrq (by simp; omega) hsa ?_)
        intro v20 w20 ho20 hg20 hi20
        have hgo : w.grownBy w20 (some cb) := grown_own hga hg20 (fun g h => (hoa.lt g h).1)
        have HST4 : Hid (St w20 cb v bs) := st_below HSTA.out (below_of_ownQ hg20 (st_lt HSTA.out) (fun g h => (hoa.lt g h).1) hcb)
        have HO20 := Lib.hid ho20
        clear ho20 hg20 hi20 hoa hga HSTA hrq
        go_wp2
        go_ret
        exact ⟨_, acc ++ [x], rfl, by simp; omega, HRG.out, by simpa using HO20.out, HST4.out, hgo⟩
theorem then_normalQ (K : Act → World → Prop) (Q : Exit → Act → World → Prop) (a : Act) (w : World) : Exit.then K Q .normal a w = K a w := rfl
theorem tab_cellQ {w2 w3 : World} {Tb : Array Value} {t : TypeId} {cb j : Nat} {u : Value} (hg : ((w2.alloc (.cells Tb t)).drew).grownBy w3 (some cb)) (hcb : cb < w2.heap.size) (h : Tb[j]? = some u) : w3.cell? ⟨w2.heap.size, j, none⟩ = some u := by
  have e : w3.heap[w2.heap.size]? = (w2.alloc (.cells Tb t)).heap[w2.heap.size]? := hg.block w2.heap.size (by show w2.heap.size < (w2.alloc (.cells Tb t)).heap.size; rw [World.size_alloc]; omega) (by simp; omega)
  rw [World.cell?_of_block (w := w2.alloc (.cells Tb t)) e, World.cell?_alloc_at _ _ _ _ rfl]
  exact h
abbrev tabQ : Array Value := #[.int .i64 0, .int .i64 1, .int .i64 2, .int .i64 3, .int .i64 8, .int .i64 9, .int .i64 (-1)]
theorem tabQ_get (j : Nat) (h : j < 7) : ∃ z : Int, tabQ[j]? = some (.int .i64 z) ∧ -1 ≤ z ∧ z ≤ 9 := by
  rcases (show j = 0 ∨ j = 1 ∨ j = 2 ∨ j = 3 ∨ j = 4 ∨ j = 5 ∨ j = 6 by omega) with rfl | rfl | rfl | rfl | rfl | rfl | rfl <;> exact ⟨_, rfl, by omega, by omega⟩
abbrev tabK : Array Value := #[.int .i64 (-1), .int .i64 0, .int .i64 65535, .int .i64 65536, .int .i64 4611686018427387904, .int .i64 (-9223372036854775808)]
theorem tabK_get (j : Nat) (h : j < 6) : ∃ z : Int, tabK[j]? = some (.int .i64 z) ∧ -9223372036854775808 ≤ z ∧ z ≤ 4611686018427387904 := by
  rcases (show j = 0 ∨ j = 1 ∨ j = 2 ∨ j = 3 ∨ j = 4 ∨ j = 5 by omega) with rfl | rfl | rfl | rfl | rfl | rfl <;> exact ⟨_, rfl, by omega, by omega⟩
set_option maxRecDepth 100000 in
theorem drawKey_any (cb : Nat) (v : Value) (bs : List Int) (w : World) (hst : St w cb v bs) (hl : bs.length ≤ 4096) (hz : ∀ j, 0 ≤ bs.getD j 0 ∧ bs.getD j 0 ≤ 255) :
    Calls Tryd.prog 28 #[.pointer (some ⟨cb, 0, none⟩)] w fun e w' => ∃ z : Int, e = .returned (.int .i64 z) ∧ -9223372036854775808 ≤ z ∧ z ≤ 4611686018427387904 ∧ St w' cb v bs ∧ w.grownBy w' (some cb) := by
  have hcb := st_lt hst
  go_enter Tryd.func28, Tryd.ntmps28
  go_wp2_with fail
  refine (once_any cb v bs 10 w hst hl hz (by omega)).mono ?_
  rintro e w2 ⟨b, rfl, hst2, hg2⟩
  have hs2 := hg2.size
  clear hst
  cases b with
  | true =>
    have hst2' := st_below hst2 ((Below.refl (cb + 1) w2).alloc (by omega) (.cells tabK 2))
    have hg2' : w.grownBy (w2.alloc (.cells tabK 2)) (some cb) := grown_trans hg2 (World.grownBy_alloc w2 _ _)
    go_wp2_with fail
    refine (below_any cb v bs 6 _ hst2' hl hz (by omega)).mono ?_
    rintro e w3 ⟨r, rfl, hr0, hr1, _, hst3, hg3⟩
    have hr2 := hr1 (by omega)
    obtain ⟨r, rfl⟩ := Int.eq_ofNat_of_zero_le hr0
    obtain ⟨z, hzr, hz1, hz2⟩ := tabK_get r (by omega)
    have hcell : w3.cell? ⟨w2.heap.size, r, none⟩ = some (.int .i64 z) := by
      rw [World.cell?_of_block (w := w2.alloc (.cells tabK 2)) (hg3.block w2.heap.size (by simp) (by simp; omega)), World.cell?_alloc_at _ _ _ _ rfl]
      exact hzr
    have HST := Lib.hid hst3
    have HG := Lib.hid (grown_trans hg2' hg3)
    clear hst2 hst2' hst3 hg3 hzr hz hg2 hg2'
    go_wp2
    go_ret
    exact ⟨_, rfl, hz1, hz2, HST.out, HG.out⟩
  | false =>
    go_wp2_with fail
    refine (below_any cb v bs 2000000000 w2 hst2 hl hz (by omega)).mono ?_
    rintro e w3 ⟨r, rfl, hr0, hr1, _, hst3, hg3⟩
    have hr2 := hr1 (by omega)
    have HST := Lib.hid hst3
    have HG := Lib.hid (grown_trans hg2 hg3)
    clear hst2 hst3 hg3 hz hg2
    go_wp2
    go_ret
    exact ⟨_, rfl, by omega, by omega, HST.out, HG.out⟩
set_option maxHeartbeats 1000000 in
set_option maxRecDepth 100000 in
theorem drawNewRing_any (va : Value) (bs : List Int) (w : World) (ha : Rd w va (cellsByteS bs)) (hl : bs.length ≤ 4096) (hz : Bytes bs) :
    Calls Tryd.prog 6 #[va] w fun e w' => ∃ (v' : Value) (xs : List Int) (d : Int), e = .returned (.tuple #[v', .int .i64 d]) ∧ xs.length ≤ 7 ∧ (∀ x ∈ xs, -1 ≤ x ∧ x ≤ 18) ∧ -1 ≤ d ∧ d ≤ 9 ∧ w'.ownsRow w.heap.size 2 1 v' xs.length (cellsInt64S xs) ∧ Below w.heap.size w w' := by
  go_enter Tryd.func6, Tryd.ntmps6
  go_wp2_with fail
  refine (new_any va bs w ha hl (bytes_allQ hz)).mono ?_
  rintro e w1 ⟨rfl, hst1, hb1, hs1⟩
  go_wp2_with fail
  refine (drawNodes_any w.heap.size va bs w1 hst1 hl (bytes_allQ hz)).mono ?_
  rintro e w2 ⟨v', xs, rfl, hxl, hxr, ho2, hst2, hg2⟩
  have hoX := ho2
  have ho2 := owns_base ho2 (show w.heap.size ≤ w1.heap.size by omega)
  have hb2 : Below w.heap.size w w2 := hb1.grown hg2 (by omega) (fun k hk => by cases hk; exact Nat.le_refl _)
  have hs2 := hg2.size
  have HXR := Lib.hid hxr
  clear hst1 ha hxr
  obtain ⟨av, cv, hvv⟩ := owns_slice ho2
  have HSTd : Hid (St w2.drew w.heap.size va bs) := hst2
  have HSTa : Hid (St (w2.alloc (.cells tabQ 2)).drew w.heap.size va bs) := st_below hst2 ((Below.refl (w.heap.size + 1) w2).alloc (by omega) _).drew
  have hBd : Below w.heap.size w w2.drew := hb2.drew
  have hBa : Below w.heap.size w (w2.alloc (.cells tabQ 2)).drew := (hb2.alloc hb2.size _).drew
  have hod : w2.drew.ownsRow w.heap.size 2 1 v' xs.length (cellsInt64S xs) := ho2
  have hoa : (w2.alloc (.cells tabQ 2)).drew.ownsRow w.heap.size 2 1 v' xs.length (cellsInt64S xs) := ho2.alloc _
  have hvn : v'.ownBlock ≠ some w.heap.size := fun h => by have := (hoX.lt _ h).1; omega
  have HZ := Lib.hid (bytes_allQ hz)
  clear hz hst2 hb1 hg2 hoX
  subst hvv
  go_wp2
  go_region_with (first
    | (go_at_call 19; refine (below_any w.heap.size va bs 7 _ HSTd.out hl HZ.out (by omega)).mono ?_; rintro e w4 ⟨r, rfl, hr0, hr1, _, hst4, hg4⟩; have hr2 := hr1 (by omega); obtain ⟨r, rfl⟩ := Int.eq_ofNat_of_zero_le hr0; obtain ⟨x, hx, hx0, hx1⟩ := tabQ_get r (by omega); have hB4 : Below w.heap.size w w4 := hBd.grown hg4 hBd.size (fun k hk => by cases hk; exact Nat.le_refl _); have hc4 : (w4.alloc (.cells tabQ 2)).cell? ⟨w4.heap.size, r, none⟩ = some (.int .i64 x) := ((World.cell?_alloc_at _ _ _ _ rfl).trans hx); have ho4 := owns_grown hod hg4 (fun k hk h => by cases hk; exact hvn h); clear hst4 hg4 hr1)
    | (go_at_call 19; refine (below_any w.heap.size va bs 7 _ HSTa.out hl HZ.out (by omega)).mono ?_; rintro e w4 ⟨r, rfl, hr0, hr1, _, hst4, hg4⟩; have hr2 := hr1 (by omega); obtain ⟨r, rfl⟩ := Int.eq_ofNat_of_zero_le hr0; obtain ⟨x, hx, hx0, hx1⟩ := tabQ_get r (by omega); have hB4 : Below w.heap.size w w4 := hBa.grown hg4 hBa.size (fun k hk => by cases hk; exact Nat.le_refl _); have hc4 := tab_cellQ (w2 := w2) hg4 (by omega) hx; have ho4 := owns_grown hoa hg4 (fun k hk h => by cases hk; exact hvn h); clear hst4 hg4 hr1))
  all_goals
    rw [then_normalQ]
    clear HSTd HSTa hBd hBa hc4 hod hoa
    have HO4 : Hid (∃ w9, w9 = w4 ∧ w9.ownsRow w.heap.size 2 1 (.slice av xs.length cv) xs.length (cellsInt64S xs)) := ⟨_, rfl, ho4⟩
    clear ho4
    go_wp2
    go_ret2
    obtain ⟨w9, rfl, ho9⟩ := HO4.out
    exact ⟨_, xs, x, rfl, hxl, HXR.out, hx0, hx1, by first | exact ho9 | exact ho9.alloc _, by first | exact hB4 | exact hB4.alloc hB4.size _⟩
end Go.Proofs.YtidmaaglfckcbafDoor
