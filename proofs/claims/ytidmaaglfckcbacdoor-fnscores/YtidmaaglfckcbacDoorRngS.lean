/- CONTRACTS: the specification's RingOk, l11First, Owner, Owners, Without. -/
import Derived.Test.YtidmaaglfckcbacDoorRngM
import Derived.Test.YtidmaaglfckcbacDoorIn1
import Derived.Test.YtidmaaglfckcbacDoorQue
import Derived.Deep.QuietTactic
namespace Go.Proofs.YtidmaaglfckcbacDoor
open Go.RowKit
set_option linter.unusedVariables false
set_option maxHeartbeats 4000000 in
set_option maxRecDepth 100000 in
theorem specRingOk_any (va : Value) (l : List Dt) (w : World) (ha : RdG dtf 2 w va l) (hl : l.length ≤ 1048576) :
    Calls Tryd.prog 21 #[va] w fun e w' => e = .returned (.bool (decide (RingP l))) ∧ Below w.heap.size w w' := by
  by_cases hlo : l.length < 1
  focus
    have e : decide (RingP l) = false := decide_eq_false (fun h => by have := h.1.1; omega)
    rw [e]
    obtain ⟨ao, cap, rfl⟩ := rdG_shape ha
    have hI : (l.length : Int) < 1 := by omega
    clear e ha
    go_enter Tryd.func21, Tryd.ntmps21
    go_wp2
    go_ret
    exact ⟨rfl, Below.refl _ _⟩
  by_cases hhi : 128 < l.length
  focus
    have e : decide (RingP l) = false := decide_eq_false (fun h => by have := h.1.2; omega)
    rw [e]
    obtain ⟨ao, cap, rfl⟩ := rdG_shape ha
    have hI : ¬ (l.length : Int) < 1 := by omega
    have hJ : (128 : Int) < (l.length : Int) := by omega
    clear e ha
    go_enter Tryd.func21, Tryd.ntmps21
    go_wp2
    go_ret
    exact ⟨rfl, Below.refl _ _⟩
  have hI : ¬ (l.length : Int) < 1 := by omega
  have hJ : ¬ (128 : Int) < (l.length : Int) := by omega
  rcases rdG_cases ha with ⟨h0, ao, cap, rfl⟩ | ⟨hp, b, off, cap, rfl, _, hlt, hc⟩
  · rw [h0] at hlo; exact absurd hlo (by decide)
  have HA : Hid (∀ j, j < l.length → w.cell? ⟨b, off + j * 2, none⟩ = some (.int .i64 (l.getD j dt0).1) ∧ w.cell? ⟨b, off + j * 2 + 1, none⟩ = some (.int .i64 (l.getD j dt0).2)) := fun j hj => dt_cells hc hj
  have HNO : Hid (∀ i, i < l.length → ¬ (DotP (l.getD i dt0) ∧ (i = 0 ∨ (l.getD (i - 1) dt0).1 < (l.getD i dt0).1)) → decide (RingP l) = false) := fun i hi h => decide_eq_false (ring_no hi h)
  have HYES : Hid ((∀ i, i < l.length → (DotP (l.getD i dt0) ∧ (i = 0 ∨ (l.getD (i - 1) dt0).1 < (l.getD i dt0).1))) → decide (RingP l) = true) := fun h => decide_eq_true (ring_yes ⟨by omega, by omega⟩ h)
  generalize decide (RingP l) = r at HNO HYES ⊢
  obtain ⟨n, hn⟩ : ∃ n, n = l.length := ⟨_, rfl⟩
  rw [← hn] at hp hl hI hJ hlo hhi HA HNO HYES ⊢
  clear hc ha hn
  go_enter Tryd.func21, Tryd.ntmps21
  go_wp2
  go_loopw [3] (fun i wr => ∃ k q : Nat, k ≤ n ∧ i = .int .i64 k ∧ wr = w.drewN q ∧ Hid (∀ i, i < k → (DotP (l.getD i dt0) ∧ (i = 0 ∨ (l.getD (i - 1) dt0).1 < (l.getD i dt0).1)))) (fun i _ => n - (intOf i).toNat)
  case atStart => exact ⟨0, 0, Nat.zero_le _, rfl, rfl, fun i h => by omega⟩
  case round =>
    obtain ⟨k, qd, hk, rfl, rfl, hok⟩ := hrel
    by_cases hltk : k < n
    focus
      obtain ⟨d0, d1⟩ := HA.out k hltk
      have HNk := Lib.hid (HNO.out k hltk)
      have hnew : Hid ((DotP (l.getD k dt0) ∧ (k = 0 ∨ (l.getD (k - 1) dt0).1 < (l.getD k dt0).1)) → ∀ i, i < k + 1 → (DotP (l.getD i dt0) ∧ (i = 0 ∨ (l.getD (i - 1) dt0).1 < (l.getD i dt0).1))) := fun h i hi => by
        rcases Nat.lt_or_ge i k with g | g
        · exact hok.out i g
        · obtain rfl : i = k := by omega
          exact h
      have hprev : 0 < k → w.cell? ⟨b, off + (k - 1) * 2, none⟩ = some (.int .i64 (l.getD (k - 1) dt0).1) := fun h => (HA.out (k - 1) (by omega)).1
      obtain ⟨x, hx⟩ : ∃ x, x = l.getD k dt0 := ⟨_, rfl⟩
      obtain ⟨z, hz⟩ : ∃ z, z = (l.getD (k - 1) dt0).1 := ⟨_, rfl⟩
      rw [← hx] at d0 d1 HNk hnew
      rw [← hz] at hprev HNk hnew
      obtain ⟨x1, x2⟩ := x
      simp only at d0 d1 HNk hnew
      clear hx hz hok
      have hltI : (k : Int) < (n : Int) := by omega
      by_cases h1 : 0 ≤ x1 ∧ x1 ≤ 65535
      rotate_left
      focus
        have HR := Lib.hid (HNk.out (fun h => h1 h.1.1))
        have g1 : (decide (0 ≤ x1) && decide (x1 ≤ 65535)) = false := by
          cases e : (decide (0 ≤ x1) && decide (x1 ≤ 65535)) with
          | false => rfl
          | true => exact absurd (by simpa using e) h1
        clear HNk hnew hprev h1
        go_wp2
        go_quiet (first | (go_at_call 48; refine (l1InB_any _ _ _ _).mono ?_; rintro e w8 ⟨rfl, rfl⟩; rw [g1]; exact ⟨rfl, ⟨_, rfl⟩⟩))
        go_wp2
        go_ret
        exact ⟨ret_boolD HR.out.symm, by first | exact below_drewN (Below.refl _ _) _ | exact below_drewN (below_drewN (Below.refl _ _) _) _⟩
      have g1 : (decide (0 ≤ x1) && decide (x1 ≤ 65535)) = true := by simpa using h1
      by_cases h2 : 0 ≤ x2 ∧ x2 ≤ 15
      rotate_left
      focus
        have HR := Lib.hid (HNk.out (fun h => h2 h.1.2))
        have g2 : (decide (0 ≤ x2) && decide (x2 ≤ 15)) = false := by
          cases e : (decide (0 ≤ x2) && decide (x2 ≤ 15)) with
          | false => rfl
          | true => exact absurd (by simpa using e) h2
        clear HNk hnew hprev h1 h2
        go_wp2
        go_quiet (first | (go_at_call 48; refine (l1InB_any _ _ _ _).mono ?_; rintro e w8 ⟨rfl, rfl⟩; (first | rw [g1] | rw [g2]); exact ⟨rfl, ⟨_, rfl⟩⟩))
        go_wp2
        go_ret
        exact ⟨ret_boolD HR.out.symm, by first | exact below_drewN (Below.refl _ _) _ | exact below_drewN (below_drewN (Below.refl _ _) _) _⟩
      have g2 : (decide (0 ≤ x2) && decide (x2 ≤ 15)) = true := by simpa using h2
      by_cases hk0 : k = 0
      focus
        have HS := Lib.hid (hnew.out ⟨⟨h1, h2⟩, Or.inl hk0⟩)
        clear HNk hnew hprev h1 h2
        go_wp2
        have g3 : decide (0 < k) = false := decide_eq_false (by omega)
        clear hk0
        go_quiet (first | (go_at_call 48; refine (l1InB_any _ _ _ _).mono ?_; rintro e w8 ⟨rfl, rfl⟩; (first | rw [g1] | rw [g2]); exact ⟨rfl, ⟨_, rfl⟩⟩))
        go_wp2
        go_roundw
        case rel => exact ⟨k + 1, _, by omega, by go_num, rfl, HS⟩
        case measure => simp [intOf]; omega
      have d2 := hprev (by omega)
      obtain ⟨j, hj⟩ : ∃ j : Nat, (k : Int) - 1 = (j : Int) := ⟨k - 1, by omega⟩
      have hjk : k - 1 = j := by omega
      rw [hjk] at d2
      have hjn : j < n := by omega
      by_cases hle : x1 ≤ z
      focus
        have HR := Lib.hid (HNk.out (fun h => by rcases h.2 with h9 | h9; exact hk0 h9; omega))
        clear HNk hnew hprev hjk h1 h2
        go_wp2
        have g3 : decide (0 < k) = true := decide_eq_true (by omega)
        have g4 : decide (x1 ≤ z) = true := decide_eq_true hle
        go_quiet (first | (go_at_call 48; refine (l1InB_any _ _ _ _).mono ?_; rintro e w8 ⟨rfl, rfl⟩; (first | rw [g1] | rw [g2]); exact ⟨rfl, ⟨_, rfl⟩⟩))
        go_wp2
        go_ret
        exact ⟨ret_boolD HR.out.symm, by first | exact below_drewN (Below.refl _ _) _ | exact below_drewN (below_drewN (Below.refl _ _) _) _⟩
      have HS := Lib.hid (hnew.out ⟨⟨h1, h2⟩, Or.inr (by omega)⟩)
      clear HNk hnew hprev hjk h1 h2
      go_wp2
      have g3 : decide (0 < k) = true := decide_eq_true (by omega)
      have g4 : decide (x1 ≤ z) = false := decide_eq_false (by omega)
      go_quiet (first | (go_at_call 48; refine (l1InB_any _ _ _ _).mono ?_; rintro e w8 ⟨rfl, rfl⟩; (first | rw [g1] | rw [g2]); exact ⟨rfl, ⟨_, rfl⟩⟩))
      go_wp2
      go_roundw
      case rel => exact ⟨k + 1, _, by omega, by go_num, rfl, HS⟩
      case measure => simp [intOf]; omega
    have HR := Lib.hid (HYES.out (fun i hi => hok.out i (by omega)))
    go_wp2
    go_ret
    exact ⟨ret_boolD HR.out.symm, by first | exact below_drewN (Below.refl _ _) _ | exact below_drewN (below_drewN (Below.refl _ _) _) _⟩
set_option maxHeartbeats 1000000 in
set_option maxRecDepth 100000 in
theorem l11First_any (va : Value) (l : List Dt) (key : Int) (w : World) (ha : RdG dtf 2 w va l) (hp : 0 < l.length) (hl : l.length ≤ 1048576) (hk0 : 0 ≤ key) :
    Calls Tryd.prog 51 #[va, .int .i64 key] w fun e w' => ∃ i : Nat, e = .returned (.int .i64 (i : Int)) ∧ FirstAt l (key % 65536) i ∧ w' = w := by
  rcases rdG_cases ha with ⟨h0, _⟩ | ⟨_, b, off, cap, rfl, _, hlt, hc⟩
  · rw [h0] at hp; exact absurd hp (by decide)
  have HA : Hid (∀ j, j < l.length → w.cell? ⟨b, off + j * 2, none⟩ = some (.int .i64 (l.getD j dt0).1)) := fun j hj => (dt_cells hc hj).1
  have HYES : Hid (∀ k, k < l.length → key % 65536 ≤ (l.getD k dt0).1 → (∀ j, j < k → (l.getD j dt0).1 < key % 65536) → FirstAt l (key % 65536) k) := fun k hk h1 h2 => ⟨hk, Or.inl ⟨h1, h2⟩⟩
  have HNO : Hid ((∀ j, j < l.length → (l.getD j dt0).1 < key % 65536) → FirstAt l (key % 65536) 0) := fun h => ⟨hp, Or.inr ⟨rfl, h⟩⟩
  generalize hF : FirstAt l (key % 65536) = F at HYES HNO ⊢
  obtain ⟨n, hn⟩ : ∃ n, n = l.length := ⟨_, rfl⟩
  rw [← hn] at hp hl HA HNO HYES ⊢
  clear hc ha hn hF
  go_enter Tryd.func51, Tryd.ntmps51
  go_wp2
  go_loopw [5] (fun i wr => ∃ k : Nat, k ≤ n ∧ i = .int .i64 k ∧ wr = w ∧ Hid (∀ j, j < k → (l.getD j dt0).1 < key % 65536)) (fun i _ => n - (intOf i).toNat)
  case atStart => exact ⟨0, Nat.zero_le _, rfl, rfl, fun i h => by omega⟩
  case round =>
    obtain ⟨k, hk, rfl, rfl, hok⟩ := hrel
    by_cases hltk : k < n
    focus
      have d0 := HA.out k hltk
      have HYk := Lib.hid (fun h => HYES.out k hltk h hok.out)
      have hnew : Hid ((l.getD k dt0).1 < key % 65536 → ∀ j, j < k + 1 → (l.getD j dt0).1 < key % 65536) := fun h j hj => by
        rcases Nat.lt_or_ge j k with g | g
        · exact hok.out j g
        · obtain rfl : j = k := by omega
          exact h
      obtain ⟨x, hx⟩ : ∃ x, x = (l.getD k dt0).1 := ⟨_, rfl⟩
      rw [← hx] at d0 HYk hnew
      clear hx hok
      have hltI : (k : Int) < (n : Int) := by omega
      by_cases hge : key % 65536 ≤ x
      focus
        have HR := Lib.hid (HYk.out hge)
        clear HYk hnew
        go_wp2
        go_ret
        exact ⟨k, rfl, HR.out, rfl⟩
      have HS := Lib.hid (hnew.out (by omega))
      have hlt9 : x < key % 65536 := by omega
      clear HYk hnew
      go_wp2
      go_roundw
      case rel => exact ⟨k + 1, by omega, by go_num, by first | rfl | trivial, HS⟩
      case measure => simp [intOf]; omega
    have HR := Lib.hid (HNO.out (fun j hj => hok.out j (by omega)))
    go_wp2
    go_ret
    exact ⟨0, rfl, HR.out, rfl⟩
set_option maxHeartbeats 1000000 in
set_option maxRecDepth 100000 in
theorem specOwner_any (va : Value) (l : List Dt) (key : Int) (w : World) (ha : RdG dtf 2 w va l) (hl : l.length ≤ 1048576) :
    Calls Tryd.prog 16 #[va, .int .i64 key] w fun e w' => e = .returned (.int .i64 (ownT l key)) ∧ Below w.heap.size w w' := by
  have hok := specRingOk_any va l w ha hl
  by_cases hr : RingP l
  rotate_left
  focus
    rw [decide_eq_false hr] at hok
    have e : ownT l key = -1 := by unfold ownT; rw [if_neg (fun h => hr h.1)]
    rw [e]
    obtain ⟨ao, cap, rfl⟩ := rdG_shape ha
    clear e ha
    go_enter Tryd.func16, Tryd.ntmps16
    go_wp2_with fail
    refine hok.mono ?_
    rintro e w2 ⟨rfl, hb2⟩
    clear hok
    go_wp2
    go_ret
    exact ⟨rfl, hb2⟩
  rw [decide_eq_true hr] at hok
  by_cases hk : 0 ≤ key
  rotate_left
  focus
    have e : ownT l key = -1 := by unfold ownT; rw [if_neg (fun h => hk h.2)]
    rw [e]
    have hI : key < 0 := by omega
    obtain ⟨ao, cap, rfl⟩ := rdG_shape ha
    clear e ha hk
    go_enter Tryd.func16, Tryd.ntmps16
    go_wp2_with fail
    refine hok.mono ?_
    rintro e w2 ⟨rfl, hb2⟩
    clear hok
    go_wp2
    go_ret
    exact ⟨rfl, hb2⟩
  have e : ownT l key = ((rotL l (key % 65536)).headD dt0).2 := by unfold ownT; rw [if_pos ⟨hr, hk⟩]
  have hpos : 0 < l.length := by have := hr.1.1; omega
  have HF := Lib.hid (fun (W : World) (h : RdG dtf 2 W va l) => l11First_any va l key W h hpos hl hk)
  have HH : Hid (∀ i, FirstAt l (key % 65536) i → i < l.length ∧ ownT l key = (l.getD i dt0).2) := fun i hi => ⟨hi.1, by rw [e, first_head hr.2.2 hi]⟩
  have HC := Lib.hid (fun (W : World) (h : Below w.heap.size w W) => rdG_below ha h)
  rcases rdG_cases ha with ⟨h0, _⟩ | ⟨_, b, off, cap, rfl, _, hlt, hc⟩
  · rw [h0] at hpos; exact absurd hpos (by decide)
  have HA : Hid (∀ j, j < l.length → ∀ W, Below w.heap.size w W → W.cell? ⟨b, off + j * 2 + 1, none⟩ = some (.int .i64 (l.getD j dt0).2)) := fun j hj W h => (dt_cells (cellsG_below hc hlt h) hj).2
  clear e ha hc
  have hkn : ¬ key < 0 := by omega
  generalize ownT l key = R at HH ⊢
  go_enter Tryd.func16, Tryd.ntmps16
  go_wp2_with fail
  refine hok.mono ?_
  rintro e w2 ⟨rfl, hb2⟩
  have hcall := HF.out w2 (HC.out w2 hb2)
  clear hok
  go_wp2_with fail
  refine hcall.mono ?_
  rintro e w3 ⟨i, rfl, hfi, rfl⟩
  obtain ⟨hil, hiR⟩ := HH.out i hfi
  have d1 := HA.out i hil w3 hb2
  have HR := Lib.hid hiR
  have hilI : (i : Int) < (l.length : Int) := by omega
  obtain ⟨x, hx⟩ : ∃ x, x = (l.getD i dt0).2 := ⟨_, rfl⟩
  rw [← hx] at d1 HR
  clear hcall hfi hiR hx hr
  go_wp2
  go_ret
  exact ⟨by rw [HR.out]; rfl, hb2⟩
set_option maxHeartbeats 4000000 in
set_option maxRecDepth 100000 in
theorem specOwners_any (va : Value) (l : List Dt) (key n : Int) (w : World) (ha : RdG dtf 2 w va l) (hl : l.length ≤ 1048576) :
    Calls Tryd.prog 18 #[va, .int .i64 key, .int .i64 n] w fun e w' => ∃ v, e = .returned v ∧ w'.ownsRow w.heap.size 2 1 v (ownersT l key n).length (cellsInt64S (ownersT l key n)) ∧ Below w.heap.size w w' := by
  have hb0 := (Below.refl w.heap.size w).alloc (Nat.le_refl _) (.cells #[] 2)
  have hrow0 : (w.alloc (.cells #[] 2)).ownsRow w.heap.size 2 1 (.slice (some ⟨w.heap.size, 0, none⟩) 0 0) ([] : List Int).length (cellsInt64S []) := World.ownsRow_lit (base := w.heap.size) (e := 2) (size := 1) w #[] 0 (Nat.le_refl _) (Nat.zero_le _) rfl
  have hs0 : w.heap.size ≤ (w.alloc (.cells #[] 2)).heap.size := by rw [World.size_alloc]; omega
  have hok := specRingOk_any va l (w.alloc (.cells #[] 2)) (rdG_below ha hb0) hl
  by_cases hr : RingP l
  rotate_left
  focus
    rw [decide_eq_false hr] at hok
    have e : ownersT l key n = [] := by unfold ownersT; rw [if_neg (fun h => hr h.1)]
    rw [e]
    obtain ⟨ao, cap, rfl⟩ := rdG_shape ha
    clear e ha
    go_enter Tryd.func18, Tryd.ntmps18
    go_wp2_with fail
    refine hok.mono ?_
    rintro e w2 ⟨rfl, hb2⟩
    have HO := Lib.hid (owns_below hrow0 hb2)
    have HB := Lib.hid (hb0.trans (hb2.mono hs0))
    clear hok hrow0 hb2 hb0
    go_wp2
    go_ret
    exact ⟨_, rfl, HO.out, HB.out⟩
  rw [decide_eq_true hr] at hok
  by_cases hk : 0 ≤ key
  rotate_left
  focus
    have e : ownersT l key n = [] := by unfold ownersT; rw [if_neg (fun h => hk h.2.1)]
    rw [e]
    have hI : key < 0 := by omega
    obtain ⟨ao, cap, rfl⟩ := rdG_shape ha
    clear e ha hk
    go_enter Tryd.func18, Tryd.ntmps18
    go_wp2_with fail
    refine hok.mono ?_
    rintro e w2 ⟨rfl, hb2⟩
    have HO := Lib.hid (owns_below hrow0 hb2)
    have HB := Lib.hid (hb0.trans (hb2.mono hs0))
    clear hok hrow0 hb2 hb0
    go_wp2
    go_ret
    exact ⟨_, rfl, HO.out, HB.out⟩
  have hkn : ¬ key < 0 := by omega
  by_cases hn1 : n < 1
  focus
    have e : ownersT l key n = [] := by unfold ownersT; rw [if_neg (fun h => by have := h.2.2; omega)]
    rw [e]
    obtain ⟨ao, cap, rfl⟩ := rdG_shape ha
    clear e ha hk
    go_enter Tryd.func18, Tryd.ntmps18
    go_wp2_with fail
    refine hok.mono ?_
    rintro e w2 ⟨rfl, hb2⟩
    have HO := Lib.hid (owns_below hrow0 hb2)
    have HB := Lib.hid (hb0.trans (hb2.mono hs0))
    clear hok hrow0 hb2 hb0
    go_wp2
    go_ret
    exact ⟨_, rfl, HO.out, HB.out⟩
  have e : ownersT l key n = (distK ((rotL l (key % 65536)).map (·.2)) []).take n.toNat := by unfold ownersT; rw [if_pos ⟨hr, hk, by omega⟩]
  have hpos : 0 < l.length := by have := hr.1.1; omega
  have hl128 : l.length ≤ 128 := hr.1.2
  have HF := Lib.hid (fun (W : World) (h : RdG dtf 2 W va l) => l11First_any va l key W h hpos hl hk)
  have HC := Lib.hid (fun (W : World) (h : Below w.heap.size w W) => rdG_below ha h)
  obtain ⟨C, hC⟩ : ∃ C, C = (rotL l (key % 65536)).map (·.2) := ⟨_, rfl⟩
  have hCl : C.length = l.length := by rw [hC, List.length_map, rot_len]
  have HAT : Hid (∀ i, FirstAt l (key % 65536) i → ∀ k, k < l.length → (i + k) % l.length < l.length ∧ C.getD k 0 = (l.getD ((i + k) % l.length) dt0).2) := fun i hi k hk9 => ⟨Nat.mod_lt _ hpos, by rw [hC]; exact first_at hr.2.2 hi hk9⟩
  have HFL : Hid (∀ i, FirstAt l (key % 65536) i → i < l.length) := fun i hi => hi.1
  rw [← hC] at e
  have HR0 : Hid (distK (C.drop 0) [] = distK C []) := by show _ = _; rw [List.drop_zero]
  have HEND : Hid (∀ H R, distK (C.drop l.length) H = R → H = R) := fun H R h => by
    rw [← hCl, List.drop_length] at h
    exact h
  have HOLD : Hid (∀ i H R, i < l.length → C.getD i 0 ∈ H → distK (C.drop i) H = R → distK (C.drop (i + 1)) H = R) := fun i H R hi hm h => by
    rw [drop_getD C i (by omega), distK_old hm] at h
    exact h
  have HNEW : Hid (∀ i H R, i < l.length → C.getD i 0 ∉ H → distK (C.drop i) H = R → distK (C.drop (i + 1)) (H ++ [C.getD i 0]) = R) := fun i H R hi hm h => by
    rw [drop_getD C i (by omega), distK_new hm] at h
    exact h
  have HTK : Hid (∀ k H, distK (C.drop k) H = distK C [] → (distK C []).take H.length = H) := fun k H h => by rw [← h]; exact dist_keep _ _
  rw [e]
  generalize distK C [] = R0 at HR0 HTK ⊢
  rcases rdG_cases ha with ⟨h0, _⟩ | ⟨_, b, off, cap, rfl, _, hlt, hc⟩
  · rw [h0] at hpos; exact absurd hpos (by decide)
  have HA : Hid (∀ j, j < l.length → ∀ W, Below w.heap.size w W → W.cell? ⟨b, off + j * 2 + 1, none⟩ = some (.int .i64 (l.getD j dt0).2)) := fun j hj W h => (dt_cells (cellsG_below hc hlt h) hj).2
  obtain ⟨cn, hcn⟩ : ∃ cn : Nat, n = (cn : Int) := ⟨n.toNat, by omega⟩
  have hct : n.toNat = cn := by omega
  rw [hct]
  subst hcn
  obtain ⟨DD, hDD⟩ : ∃ DD, DD = R0.take cn := ⟨_, rfl⟩
  have HTK2 : Hid (∀ k H, distK (C.drop k) H = R0 → H.length = cn → DD = H) := fun k H h h2 => by rw [hDD, ← h2]; exact HTK.out k H h
  have HEND2 : Hid (∀ H, distK (C.drop l.length) H = R0 → H.length ≤ cn → DD = H) := fun H h h2 => by rw [hDD, ← HEND.out H R0 h, List.take_of_length_le h2]
  rw [← hDD]
  clear hDD HTK HEND
  obtain ⟨L, hL⟩ : ∃ L, L = l.length := ⟨_, rfl⟩
  rw [← hL] at hpos hl hl128 HF HC HAT HFL HEND2 HOLD HNEW HA ⊢
  have hok2 := hok
  rw [← hL] at hok2
  clear hok e ha hc hC hCl hL hct hr
  go_enter Tryd.func18, Tryd.ntmps18
  go_wp2_with fail
  refine hok2.mono ?_
  rintro e w2 ⟨rfl, hb2⟩
  have hB2 := hb0.trans (hb2.mono hs0)
  have ho2 := owns_below hrow0 hb2
  have hcall := HF.out w2 (HC.out w2 hB2)
  clear hok2 hb0 hb2 hrow0
  go_wp2_with fail
  refine hcall.mono ?_
  rintro e w3 ⟨i, rfl, hfi, rfl⟩
  have hiL := HFL.out i hfi
  have HAK := Lib.hid (HAT.out i hfi)
  clear hcall hfi HAT HFL HF HC
  go_wp2
  go_loopw [7, 9] (fun v5 v6 wr => ∃ (k : Nat) (H : List Int), v6 = .int .i64 (k : Int) ∧ k ≤ L ∧ H.length ≤ k ∧ H.length ≤ cn ∧ Hid (distK (C.drop k) H = R0) ∧ wr.ownsRow w.heap.size 2 1 v5 H.length (cellsInt64S H) ∧ Below w.heap.size w wr) (fun _ k _ => L - (intOf k).toNat)
  case atStart => exact ⟨0, [], rfl, Nat.zero_le _, Nat.le_refl _, Nat.zero_le _, HR0, ho2, hB2⟩
  case round =>
    rename World => wr
    obtain ⟨k, H, rfl, hk9, hHl, hHc, hM, ho, hb⟩ := hrel
    clear ho2 hB2 HR0
    have hsb := hb.size
    by_cases hend : k < L ∧ H.length < cn
    rotate_left
    · have HE : Hid (DD = H) := by
        by_cases h9 : k < L
        · exact HTK2.out k H hM.out (by
            have h8 : ¬ H.length < cn := fun h => hend ⟨h9, h⟩
            omega)
        · exact HEND2.out H (by have h6 := hM.out; rw [show k = L by omega] at h6; exact h6) hHc
      obtain ⟨av, cv, hvv⟩ := owns_slice ho
      have HO := Lib.hid ho
      subst hvv
      have g1 : (decide ((k : Int) < (L : Int)) && decide ((H.length : Int) < (cn : Int))) = false := by
        cases e : (decide ((k : Int) < (L : Int)) && decide ((H.length : Int) < (cn : Int))) with
        | false => rfl
        | true =>
          exfalso
          apply hend
          simp at e
          exact ⟨by omega, by omega⟩
      clear ho hM
      rcases Nat.lt_or_ge k L with h9 | h9
      · have h8 : ¬ (H.length : Int) < (cn : Int) := by omega
        have h9I : (k : Int) < (L : Int) := by omega
        clear g1
        go_wp2
        go_ret
        exact ⟨_, rfl, by rw [HE.out]; exact HO.out, hb⟩
      · have h9I : ¬ (k : Int) < (L : Int) := by omega
        clear g1
        go_wp2
        go_ret
        exact ⟨_, rfl, by rw [HE.out]; exact HO.out, hb⟩
    obtain ⟨hltk, hltc⟩ := hend
    obtain ⟨hjl, hjC⟩ := HAK.out k hltk
    have c0 := HA.out _ hjl wr hb
    rw [← hjC] at c0
    have HHI := Lib.hid (fun h => HOLD.out k H R0 hltk h hM.out)
    have HNE := Lib.hid (fun h => HNEW.out k H R0 hltk h hM.out)
    obtain ⟨q, hq⟩ : ∃ q, q = C.getD k 0 := ⟨_, rfl⟩
    rw [← hq] at c0 HHI HNE
    have hrem : ((i : Int) + (k : Int)) % (L : Int) = (((i + k) % L : Nat) : Int) := rfl
    obtain ⟨j, hj⟩ : ∃ j, j = (i + k) % L := ⟨_, rfl⟩
    rw [← hj] at c0 hjl hrem
    have hremt : Int.tmod ((i : Int) + (k : Int)) (L : Int) = (j : Int) := by rw [Int.tmod_eq_emod_of_nonneg (by omega)]; exact hrem
    have hhas := l1HasB_any _ H q wr (rd_owns ho) (by omega)
    have hltI : (k : Int) < (L : Int) := by omega
    have hlcI : (H.length : Int) < (cn : Int) := by omega
    obtain ⟨av, cv, hvv⟩ := owns_slice ho
    clear hq hM hjC hj
    by_cases hm : q ∈ H
    · have hcn : H.contains q = true := by simpa using hm
      rw [hcn] at hhas
      have HM2 := Lib.hid (HHI.out hm)
      have HO := Lib.hid ho
      clear HHI HNE hm hcn ho
      subst hvv
      go_wp2_with fail
      refine hhas.mono ?_
      rintro e w2 ⟨rfl, rfl⟩
      clear hhas
      go_wp2
      go_roundw
      case rel => exact ⟨k + 1, H, by go_num, by omega, by omega, hHc, HM2, HO.out, hb⟩
      case measure => simp [intOf]; omega
    · have hcn : H.contains q = false := by
        cases e : H.contains q with
        | false => rfl
        | true => exact absurd (by simpa using e) hm
      rw [hcn] at hhas
      have HM2 := Lib.hid (HNE.out hm)
      clear HHI HNE hm hcn
      subst hvv
      go_wp2_with fail
      refine hhas.mono ?_
      rintro e w2 ⟨rfl, rfl⟩
      clear hhas
      have hra := (World.ownsRow_lit (base := w2.heap.size) (e := 2) (size := 1) w2 #[.int .i64 q] 1 (Nat.le_refl _) (by unfold maxLen; omega) rfl : (w2.alloc (.cells #[.int .i64 q] 2)).ownsRow w2.heap.size 2 1 (.slice (some ⟨w2.heap.size, 0, none⟩) 1 1) 1 (cellsInt64S [q]))
      have hoa := ho.alloc (.cells #[.int .i64 q] 2)
      have hba := hb.alloc hsb (.cells #[.int .i64 q] 2)
      have hrq := rd_owns hra
      clear ho hra hb
      go_wp2_with (at_builtin; refine own_step rfl _ _ rfl w.heap.size _ (.slice (some ⟨w2.heap.size, 0, none⟩) 1 1) (H) [q] rfl rfl hoa hrq (by simp; omega) (by rw [World.size_alloc]; omega) ?_)
      intro v20 w20 ho20 hg20 hi20
      have HB20 := Lib.hid (hba.grown hg20 (by rw [World.size_alloc]; omega) (fun k hk => (hoa.lt k hk).1))
      have HO20 := Lib.hid ho20
      clear ho20 hg20 hi20 hoa hba hrq
      go_wp2
      go_roundw
      case rel => exact ⟨k + 1, H ++ [q], by go_num, by omega, by simp; omega, by simp; omega, HM2, by simpa using HO20.out, HB20.out⟩
      case measure => simp [intOf]; omega
theorem drop_dt {l : List Dt} {i : Nat} (hi : i < l.length) : l.drop i = l.getD i dt0 :: l.drop (i + 1) := by
  rw [List.drop_eq_getElem_cons hi, getD_dt hi]
theorem dtT : TyG Tryd.prog 24 56 2 16 := ⟨Tryd.underlying24, ⟨.agg #[.int .i64 0, .int .i64 0], rfl, Tryd.infoDt⟩, by decide⟩
theorem ownD_lit (w : World) : OwnD (w.alloc (.cells #[] 56)) w.heap.size (.slice (some ⟨w.heap.size, 0, none⟩) 0 0) [] := World.ownsRow_lit (base := w.heap.size) (e := 56) (size := 2) w #[] 0 (Nat.le_refl _) (Nat.zero_le _) rfl
set_option maxHeartbeats 4000000 in
set_option maxRecDepth 100000 in
theorem specWithout_any (va : Value) (l : List Dt) (node : Int) (w : World) (ha : RdG dtf 2 w va l) (hl : l.length ≤ 1048576) :
    Calls Tryd.prog 19 #[va, .int .i64 node] w fun e w' => ∃ v, e = .returned v ∧ OwnD w' w.heap.size v (withoutT l node) ∧ Below w.heap.size w w' := by
  have hb0 := (Below.refl w.heap.size w).alloc (Nat.le_refl _) (.cells #[] 56)
  have hrow0 := ownD_lit w
  have hs0 : w.heap.size ≤ (w.alloc (.cells #[] 56)).heap.size := by rw [World.size_alloc]; omega
  have hok := specRingOk_any va l (w.alloc (.cells #[] 56)) (rdG_below ha hb0) hl
  by_cases hr : RingP l
  rotate_left
  focus
    rw [decide_eq_false hr] at hok
    have e : withoutT l node = [] := by unfold withoutT; rw [if_neg hr]
    rw [e]
    obtain ⟨ao, cap, rfl⟩ := rdG_shape ha
    clear e ha
    go_enter Tryd.func19, Tryd.ntmps19
    go_wp2_with fail
    refine hok.mono ?_
    rintro e w2 ⟨rfl, hb2⟩
    have HO := Lib.hid (owns_below hrow0 hb2)
    have HB := Lib.hid (hb0.trans (hb2.mono hs0))
    clear hok hrow0 hb2 hb0
    go_wp2
    go_ret
    exact ⟨_, rfl, HO.out, HB.out⟩
  rw [decide_eq_true hr] at hok
  have e : withoutT l node = l.filter (fun p => decide (p.2 ≠ node)) := by unfold withoutT; rw [if_pos hr]
  have hpos : 0 < l.length := by have := hr.1.1; omega
  rw [e]
  have HR0 : Hid ([] ++ (l.drop 0).filter (fun p => decide (p.2 ≠ node)) = l.filter (fun p => decide (p.2 ≠ node))) := rfl
  have HEND : Hid (∀ H R, H ++ (l.drop l.length).filter (fun p => decide (p.2 ≠ node)) = R → H = R) := fun H R h => by
    rw [List.drop_length] at h
    simpa using h
  have HOUT : Hid (∀ i H R, i < l.length → (l.getD i dt0).2 = node → H ++ (l.drop i).filter (fun p => decide (p.2 ≠ node)) = R → H ++ (l.drop (i + 1)).filter (fun p => decide (p.2 ≠ node)) = R) := fun i H R hi hm h => by
    rw [drop_dt hi, List.filter_cons_of_neg (by rw [decide_eq_true_eq]; exact fun h9 => h9 hm)] at h
    exact h
  have HIN : Hid (∀ i H R, i < l.length → (l.getD i dt0).2 ≠ node → H ++ (l.drop i).filter (fun p => decide (p.2 ≠ node)) = R → (H ++ [l.getD i dt0]) ++ (l.drop (i + 1)).filter (fun p => decide (p.2 ≠ node)) = R) := fun i H R hi hm h => by
    rw [drop_dt hi, List.filter_cons_of_pos (by rw [decide_eq_true_eq]; exact hm)] at h
    rw [List.append_assoc]
    exact h
  generalize l.filter (fun p => decide (p.2 ≠ node)) = R0 at HR0 ⊢
  generalize hFF : (fun i => (l.drop i).filter (fun p => decide (p.2 ≠ node))) = FF
  have hFk : ∀ i, (l.drop i).filter (fun p => decide (p.2 ≠ node)) = FF i := fun i => by rw [← hFF]
  simp only [hFk] at HR0 HEND HOUT HIN
  clear hFk hFF e
  rcases rdG_cases ha with ⟨h0, _⟩ | ⟨_, b, off, cap, rfl, _, hlt, hc⟩
  · rw [h0] at hpos; exact absurd hpos (by decide)
  have HA : Hid (∀ j, j < l.length → ∀ W, Below w.heap.size w W → W.cell? ⟨b, off + j * 2, none⟩ = some (.int .i64 (l.getD j dt0).1) ∧ W.cell? ⟨b, off + j * 2 + 1, none⟩ = some (.int .i64 (l.getD j dt0).2)) := fun j hj W h => dt_cells (cellsG_below hc hlt h) hj
  obtain ⟨L, hL⟩ : ∃ L, L = l.length := ⟨_, rfl⟩
  rw [← hL] at hpos hl HEND HOUT HIN HA hok ⊢
  have hl128 : L ≤ 128 := by have := hr.1.2; omega
  clear ha hc hL hr
  go_enter Tryd.func19, Tryd.ntmps19
  go_wp2_with fail
  refine hok.mono ?_
  rintro e w2 ⟨rfl, hb2⟩
  have hB2 := hb0.trans (hb2.mono hs0)
  have ho2 := owns_below hrow0 hb2
  clear hok hb0 hb2 hrow0
  go_wp2
  go_loopw [5, 6] (fun v5 v6 wr => ∃ (k : Nat) (H : List Dt), v6 = .int .i64 (k : Int) ∧ k ≤ L ∧ H.length ≤ k ∧ Hid (H ++ FF k = R0) ∧ OwnD wr w.heap.size v5 H ∧ Below w.heap.size w wr) (fun _ k _ => L - (intOf k).toNat)
  case atStart => exact ⟨0, [], rfl, Nat.zero_le _, Nat.le_refl _, HR0, ho2, hB2⟩
  case round =>
    rename World => wr
    obtain ⟨k, H, rfl, hk9, hHl, hM, ho, hb⟩ := hrel
    clear ho2 hB2 HR0
    have hsb := hb.size
    obtain ⟨av, cv, hvv⟩ := ownG_shape ho
    by_cases hltk : k < L
    rotate_left
    · have HE : Hid (H = R0) := HEND.out H R0 (by have h6 := hM.out; rw [show k = L by omega] at h6; exact h6)
      have HO : Hid (OwnD wr w.heap.size (.slice av H.length cv) R0) := by show OwnD _ _ _ _; rw [← HE.out, ← hvv]; exact ho
      subst hvv
      clear ho hM HE
      go_wp2
      go_ret
      exact ⟨_, rfl, HO.out, hb⟩
    obtain ⟨c0, c1⟩ := HA.out k hltk wr hb
    have HOk := Lib.hid (fun h => HOUT.out k H R0 hltk h hM.out)
    have HIk := Lib.hid (fun h => HIN.out k H R0 hltk h hM.out)
    obtain ⟨q, hq⟩ : ∃ q, q = l.getD k dt0 := ⟨_, rfl⟩
    rw [← hq] at c0 c1 HOk HIk
    obtain ⟨q1, q2⟩ := q
    simp only at c0 c1 HOk
    have hltI : (k : Int) < (L : Int) := by omega
    clear hq hM
    by_cases hm : q2 = node
    · have HM2 := Lib.hid (HOk.out hm)
      have g1 : (q2 == node) = true := by simp [hm]
      have HO := Lib.hid ho
      clear HOk HIk hm ho
      subst hvv
      go_wp2
      go_roundw
      case rel => exact ⟨k + 1, H, by go_num, by omega, by omega, HM2, HO.out, hb⟩
      case measure => simp [intOf]; omega
    · have HM2 := Lib.hid (HIk.out hm)
      have g1 : (q2 == node) = false := by simp [hm]
      clear HOk HIk hm
      have hrq := rdG_one dtW wr (q1, q2) 56
      have hoa := ho.alloc (.cells #[.int .i64 q1, .int .i64 q2] 56)
      have hba := hb.alloc hsb (.cells #[.int .i64 q1, .int .i64 q2] 56)
      clear ho hb
      subst hvv
      go_wp2_with (at_builtin; refine own_stepG dtT dtW rfl _ _ rfl w.heap.size _ (.slice (some ⟨wr.heap.size, 0, none⟩) 1 1) H [(q1, q2)] rfl rfl hoa hrq (by simp; omega) (by rw [World.size_alloc]; omega) ?_)
      intro v20 w20 ho20 hg20 hi20
      have HB20 := Lib.hid (hba.grown hg20 (by rw [World.size_alloc]; omega) (fun k hk => (hoa.lt k hk).1))
      have HO20 := Lib.hid ho20
      clear ho20 hg20 hi20 hoa hba hrq
      go_wp2
      go_roundw
      case rel => exact ⟨k + 1, H ++ [(q1, q2)], by go_num, by omega, by simp; omega, HM2, HO20.out, HB20.out⟩
      case measure => simp [intOf]; omega
end Go.Proofs.YtidmaaglfckcbacDoor
