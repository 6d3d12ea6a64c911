/- CONTRACTS for FnReach: laws.has, roots2, rises; spec.DrawReach, DrawChildren. -/
import Derived.Test.YtdiammehnakchacGreatDrawsU
import Derived.Test.YtdiammehnakchacGreatDrawsB
import Derived.Test.YtdiammehnakchacGreatDrawsG
import Derived.Test.YtdiammehnakchacGreatBend
import Derived.Test.YtdiammehnakchacGreatTreeS
import Derived.Deep.RegionHeld
namespace Go.Proofs.YtdiammehnakchacGreat
open Go.RowKit
set_option linter.unusedVariables false
set_option maxRecDepth 100000 in
theorem has_any (va : Value) (l : List Int) (d : Int) (w : World) (ha : Rd w va (cellsInt64S l)) (hl : l.length ≤ 2097152) (hd : d ∈ l) :
    Calls Tryz.prog 19 #[va, .int .i64 d] w fun e w' => e = .returned (.bool true) ∧ w' = w := by
  have hla : (cellsInt64S l).length = l.length := by simp
  rcases rd_cases ha with ⟨h0, ao, cap, rfl⟩ | ⟨hp, b, off, cap, rfl, _, hlt, hc⟩
  · have hx : l = [] := by simpa using h0
    rw [hx] at hd
    cases hd
  rw [hla] at hc hp ⊢
  have HA : Hid (∀ j, j < l.length → w.cell? ⟨b, off + j, none⟩ = some (.int .i64 (l.getD j 0))) := fun j hj => (hc j hj).trans (ints_get _ l j hj)
  have HN : Hid (¬ ∀ j, j < l.length → l.getD j 0 ≠ d) := fun h => by
    obtain ⟨j, hj, e⟩ := List.getElem_of_mem hd
    exact absurd (by simp [List.getD, hj, e]) (h j hj)
  obtain ⟨n, hn⟩ : ∃ n, n = l.length := ⟨_, rfl⟩
  rw [← hn] at hp hl HA HN ⊢
  clear hc ha hn hla hd
  go_enter Tryz.func19, Tryz.ntmps19
  go_wp2
  go_loop [5] (fun i => ∃ k : Nat, k ≤ n ∧ i = .int .i64 k ∧ Hid (∀ j, j < k → l.getD j 0 ≠ d)) (fun i => n - (intOf i).toNat)
  case atStart => exact ⟨0, Nat.zero_le _, rfl, fun j h => by omega⟩
  case round =>
    obtain ⟨k, hk, rfl, hno⟩ := hrel
    by_cases hltk : k < n
    focus
      have d0 := HA.out k hltk
      have HK : Hid (l.getD k 0 ≠ d → ∀ j, j < k + 1 → l.getD j 0 ≠ d) := fun h j hj => by
        by_cases e : j = k
        · subst e; exact h
        · exact hno.out j (by omega)
      obtain ⟨x, hx⟩ : ∃ x, x = l.getD k 0 := ⟨_, rfl⟩
      rw [← hx] at d0 HK
      clear hx
      by_cases hxd : x = d
      · subst hxd
        have hb : (x == x) = true := by simp
        go_wp2
        go_ret
        exact ⟨rfl, rfl⟩
      · have hb : (x == d) = false := beq_eq_false_iff_ne.2 hxd
        have HK2 := Lib.hid (HK.out hxd)
        clear hxd
        go_wp2
        go_round
        case rel => exact ⟨k + 1, by omega, by go_num, HK2⟩
        case measure => simp [intOf]; omega
    obtain rfl : k = n := by omega
    exact absurd hno.out HN.out
set_option maxRecDepth 100000 in
theorem roots2_any (va : Value) (l : List Int) (w : World) (ha : Rd w va (cellsInt64S l)) (hl : l.length ≤ 1048576) :
    Calls Tryz.prog 23 #[va] w fun e w' => e = .returned (.int .i64 (l.getD 0 0)) ∧ w' = w := by
  have hla : (cellsInt64S l).length = l.length := by simp
  rcases rd_cases ha with ⟨h0, ao, cap, rfl⟩ | ⟨hp, b, off, cap, rfl, _, hlt, hc⟩
  · have hx : l = [] := by simpa using h0
    subst hx
    go_enter Tryz.func23, Tryz.ntmps23
    go_wp2
    go_ret
    exact ⟨rfl, rfl⟩
  rw [hla] at hc hp ⊢
  have c0 : w.cell? ⟨b, off, none⟩ = some (.int .i64 (l.getD 0 0)) := (hc 0 hp).trans (ints_get _ l 0 hp)
  have hnz : ((l.length : Int) == 0) = false := beq_eq_false_iff_ne.2 (by omega)
  have hpI : (0 : Int) < (l.length : Int) := by omega
  obtain ⟨x, hx⟩ : ∃ x, x = l.getD 0 0 := ⟨_, rfl⟩
  rw [← hx] at c0 ⊢
  clear hc ha hla hx
  go_enter Tryz.func23, Tryz.ntmps23
  go_wp2
  go_ret
  exact ⟨rfl, rfl⟩
set_option maxHeartbeats 1000000 in
set_option maxRecDepth 100000 in
theorem rises_any8 (va : Value) (l : List Int) (w : World) (ha : Rd w va (cellsInt64S l)) (hl : l.length ≤ 2097152) (hr : l.Pairwise (· < ·)) :
    Calls Tryz.prog 24 #[va] w fun e w' => e = .returned (.bool true) ∧ Below w.heap.size w w' := by
  have hla : (cellsInt64S l).length = l.length := by simp
  rcases rd_cases ha with ⟨h0, ao, cap, rfl⟩ | ⟨hp, b, off, cap, rfl, _, hlt, hc⟩
  · have hx : l = [] := by simpa using h0
    subst hx
    go_enter Tryz.func24, Tryz.ntmps24
    go_wp2
    refine wp_loop_rounds 1 ?_
    rw [rounds_succ]
    go_wp2
    go_ret
    exact ⟨rfl, Below.refl _ _⟩
  rw [hla] at hc hp ⊢
  have HA : Hid (∀ j, j < l.length → w.cell? ⟨b, off + j, none⟩ = some (.int .i64 (l.getD j 0))) := fun j hj => (hc j hj).trans (ints_get _ l j hj)
  have HR : Hid (∀ j, j + 1 < l.length → l.getD j 0 < l.getD (j + 1) 0) := fun j hj => by
    have h := List.pairwise_iff_getElem.1 hr j (j + 1) (by omega) hj (by omega)
    simpa [List.getD, hj, show j < l.length by omega] using h
  obtain ⟨n, hn⟩ : ∃ n, n = l.length := ⟨_, rfl⟩
  rw [← hn] at hp hl HA HR ⊢
  clear hc ha hn hla hr
  go_enter Tryz.func24, Tryz.ntmps24
  go_wp2
  go_loopw [3] (fun i wr => ∃ k : Nat, k < n + 1 ∧ 1 ≤ k ∧ i = .int .i64 k ∧ Hid (∃ dd, wr = w.drewN dd)) (fun i _ => n - (intOf i).toNat)
  case atStart => exact ⟨1, by omega, Nat.le_refl _, rfl, ⟨0, rfl⟩⟩
  case round =>
    rename World => wr
    obtain ⟨k, hk, hk1, rfl, hd⟩ := hrel
    obtain ⟨dd, hdd⟩ := hd.out
    subst hdd
    by_cases hltk : k < n
    · obtain ⟨j, rfl⟩ : ∃ j, k = j + 1 := ⟨k - 1, by omega⟩
      have d0 := HA.out (j + 1) hltk
      have d1 := HA.out j (by omega)
      have hlt2 := HR.out j hltk
      rw [show off + (j + 1) = off + j + 1 by omega] at d0
      obtain ⟨x, hx⟩ : ∃ x, x = l.getD (j + 1) 0 := ⟨_, rfl⟩
      obtain ⟨y, hy⟩ : ∃ y, y = l.getD j 0 := ⟨_, rfl⟩
      rw [← hx] at d0 hlt2
      rw [← hy] at d1 hlt2
      have hle : ¬ x ≤ y := by omega
      have hjI : (j : Int) + 1 < (n : Int) := by omega
      have hjI2 : (j : Int) < (n : Int) := by omega
      have d0' : w.cell? ⟨b, off + (j + 1), none⟩ = some (.int .i64 x) := by rw [show off + (j + 1) = off + j + 1 by omega]; exact d0
      clear hx hy hd
      go_wp2
      go_quiet (fail)
      go_wp2
      go_roundw
      case rel => exact ⟨j + 1 + 1, by omega, by omega, by go_num, ⟨_, rfl⟩⟩
      case measure => simp [intOf]; omega
    · obtain rfl : k = n := by omega
      go_wp2
      go_ret
      exact ⟨rfl, below_drewN (Below.refl _ _) _⟩
/-- what DrawReach draws -/
def DReach (w : World) (e : Ending) (w' : World) : Prop := ∃ (u ur : Value) (l : List Bl) (R : List Int), e = .returned (.tuple #[u, ur]) ∧ l.length ≤ 600 ∧ Sm l 3001 ∧ R.length ≤ 5 ∧ Rt R ∧ RdB w' u l ∧ Rd w' ur (cellsInt64S R) ∧ Below w.heap.size w w'
set_option maxHeartbeats 1000000 in
set_option maxRecDepth 100000 in
theorem drawReach_any (va : Value) (bs : List Int) (w : World) (ha : Rd w va (cellsByteS bs)) (hl : bs.length ≤ 4096) (hz : Bytes bs) :
    Calls Tryz.prog 5 #[va] w (DReach w) := by
  have HZ := Lib.hid (code_all hz)
  go_enter Tryz.func5, Tryz.ntmps5
  go_wp2_with fail
  refine (new_any va bs w ha hl HZ.out).mono ?_
  rintro e w1 ⟨rfl, hst1, hb1, hs1⟩
  clear ha
  go_wp2_with fail
  refine (l8Draw_any w.heap.size va bs w1 hst1 hl HZ.out).mono ?_
  rintro e w2 ⟨u, ur, l, R, rfl, hll, hsm, hRl, hrt, hou, hor, hst2, hg2⟩
  have hb2 : Below w.heap.size w w2 := hb1.grown hg2 hb1.size (fun k hk => by cases hk; exact Nat.le_refl _)
  have hs2 := hg2.size
  have HSM := Lib.hid hsm
  have HRT := Lib.hid hrt
  clear hst1 hb1 hg2 hsm hrt
  go_wp2_with fail
  refine (once_any w.heap.size va bs 12 w2 hst2 hl HZ.out (by omega)).mono ?_
  rintro e w3 ⟨o, rfl, hst3, hg3⟩
  have hb3 : Below w.heap.size w w3 := hb2.grown hg3 hb2.size (fun k hk => by cases hk; exact Nat.le_refl _)
  have hou3 := owns_grown hou hg3 (fun k hk h => by cases hk; have := (hou.lt _ h).1; omega)
  have hor3 := owns_grown hor hg3 (fun k hk h => by cases hk; have := (hor.lt _ h).1; omega)
  have hs3 := hg3.size
  clear hst2 hb2 hou hor hg3
  cases o with
  | false =>
    have HU := Lib.hid (rdB_owns hou3)
    have HR := Lib.hid (rd_owns hor3)
    clear hst3 hou3 hor3
    go_wp2
    go_ret2
    exact ⟨_, _, l, R, rfl, hll, HSM.out, hRl, HRT.out, HU.out, HR.out, hb3⟩
  | true =>
    go_wp2_with fail
    refine (l7DrawAny_any w.heap.size va bs w3 hst3 hl HZ.out).mono ?_
    rintro e w4 ⟨u4, l4, rfl, hl8, hsm4, _, ho4, hst4, hg4⟩
    have hb4 : Below w.heap.size w w4 := hb3.grown hg4 hb3.size (fun k hk => by cases hk; exact Nat.le_refl _)
    have hor4 := owns_grown hor3 hg4 (fun k hk h => by cases hk; have := (hor3.lt _ h).1; omega)
    have HS4 := Lib.hid (sm_mono hsm4 (show 10 ≤ 3001 by omega))
    have HU := Lib.hid (rdB_owns ho4)
    have HR := Lib.hid (rd_owns hor4)
    clear hst3 hou3 hor3 hsm4 ho4 hst4 hg4 hor4 hb3
    go_wp2
    go_ret2
    exact ⟨_, _, l4, R, rfl, by omega, HS4.out, hRl, HRT.out, HU.out, HR.out, hb4⟩
set_option maxHeartbeats 1000000 in
set_option maxRecDepth 100000 in
theorem drawChildren_any (va : Value) (bs : List Int) (w : World) (ha : Rd w va (cellsByteS bs)) (hl : bs.length ≤ 4096) (hz : Bytes bs) :
    Calls Tryz.prog 7 #[va] w fun e w' => ∃ s : ByteArray, e = .returned (.string s) ∧ s.size ≤ 100 ∧ Below w.heap.size w w' := by
  have HZ := Lib.hid (code_all hz)
  have HDB : Hid (∀ W, Below w.heap.size w W → Calls Tryz.prog 9 #[va] W fun e w' => ∃ (v : Value) (ds : List Int), e = .returned v ∧ ds.length ≤ 7 ∧ (∀ d ∈ ds, -1 ≤ d ∧ d ≤ 2147483647) ∧ Rd w' v (cellsInt64S ds) ∧ Below W.heap.size W w') := fun W h => drawBranch_any va bs W (rd_below ha h) hl hz
  clear hz
  go_enter Tryz.func7, Tryz.ntmps7
  go_wp2_with fail
  refine (new_any va bs w ha hl HZ.out).mono ?_
  rintro e w1 ⟨rfl, hst1, hb1, hs1⟩
  clear ha
  go_wp2_with fail
  refine (HDB.out w1 hb1).mono ?_
  rintro e w2 ⟨v, ds, rfl, hdl, _, hrd, hb2⟩
  have hst2 := st_below hst1 (hb2.mono (by omega))
  have hB2 := hb1.trans (hb2.mono hb1.size)
  clear hst1 hb1 hb2 HDB
  go_wp2_with fail
  refine (specBranch_any v ds w2 hrd (by omega)).mono ?_
  rintro e w3 ⟨rfl, hb3⟩
  have hsz : (brT ds).size ≤ 31 := brT_31
  have hs2 := hB2.size
  have hlt := st_lt hst2
  have hst3 := st_below hst2 (hb3.mono (by omega))
  have hB3 := hB2.trans (hb3.mono hs2)
  generalize brT ds = t at hsz
  clear hst2 hB2 hb3 hrd
  go_wp2_with fail
  refine (once_any w.heap.size va bs 4 w3 hst3 hl HZ.out (by omega)).mono ?_
  rintro e w4 ⟨o, rfl, hst4, hg4⟩
  have hB4 : Below w.heap.size w w4 := hB3.grown hg4 hB3.size (fun k hk => by cases hk; exact Nat.le_refl _)
  have hs4 := hg4.size
  clear hst3 hB3 hg4
  cases o with
  | false =>
    go_wp2_with fail
    refine (once_any w.heap.size va bs 3 w4 hst4 hl HZ.out (by omega)).mono ?_
    rintro e w5 ⟨o2, rfl, hst5, hg5⟩
    have hB5 : Below w.heap.size w w5 := hB4.grown hg5 hB4.size (fun k hk => by cases hk; exact Nat.le_refl _)
    clear hst4 hB4 hg5
    cases o2 with
    | false =>
      clear hst5
      go_wp2
      go_ret
      exact ⟨t, rfl, by omega, hB5⟩
    | true =>
      go_wp2_with fail
      refine (bend_any w.heap.size va bs t ⟨#[0, 1, 2, 128]⟩ w5 hst5 hl HZ.out (by omega) (by decide) (by decide)).mono ?_
      rintro e w6 ⟨z, rfl, hzs, hst6, hg6⟩
      have hB6 : Below w.heap.size w w6 := hB5.grown hg6 hB5.size (fun k hk => by cases hk; exact Nat.le_refl _)
      clear hst5 hB5 hst6 hg6
      go_wp2
      go_ret
      exact ⟨z, rfl, by omega, hB6⟩
  | true =>
    go_wp2_with fail
    refine (drawText_any w.heap.size va bs 4 w4 hst4 hl HZ.out (by omega) (by omega)).mono ?_
    rintro e w5 ⟨x, rfl, hx, hst5, hg5⟩
    have hB5 : Below w.heap.size w w5 := hB4.grown hg5 hB4.size (fun k hk => by cases hk; exact Nat.le_refl _)
    clear hst4 hB4 hg5
    go_wp2_with fail
    refine (specLeaf_any x w5 (by omega)).mono ?_
    rintro e w6 ⟨rfl, rfl⟩
    have hlz : (leafT x).size ≤ 5 := by
      unfold leafT leafL
      rw [asB_size, List.length_cons, byts_len]
      omega
    generalize leafT x = y at hlz
    clear hx
    go_wp2_with fail
    refine (once_any w.heap.size va bs 3 _ hst5 hl HZ.out (by omega)).mono ?_
    rintro e w7 ⟨o2, rfl, hst7, hg7⟩
    have hB7 : Below w.heap.size w w7 := hB5.grown hg7 hB5.size (fun k hk => by cases hk; exact Nat.le_refl _)
    clear hst5 hB5 hg7
    cases o2 with
    | false =>
      clear hst7
      go_wp2
      go_ret
      exact ⟨y, rfl, by omega, hB7⟩
    | true =>
      go_wp2_with fail
      refine (bend_any w.heap.size va bs y ⟨#[0, 1, 2, 128]⟩ w7 hst7 hl HZ.out (by omega) (by decide) (by decide)).mono ?_
      rintro e w8 ⟨z, rfl, hzs, hst8, hg8⟩
      have hB8 : Below w.heap.size w w8 := hB7.grown hg8 hB7.size (fun k hk => by cases hk; exact Nat.le_refl _)
      clear hst7 hB7 hst8 hg8
      go_wp2
      go_ret
      exact ⟨z, rfl, by omega, hB8⟩
end Go.Proofs.YtdiammehnakchacGreat
