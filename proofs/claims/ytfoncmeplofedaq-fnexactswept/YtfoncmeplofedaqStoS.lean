/- CONTRACTS: the specification's StoreOk, l7Find, l1Has, Get. -/
import Derived.Test.YtfoncmeplofedaqBlobMath
import Derived.Test.YtfoncmeplofedaqBlobS
namespace Go.Proofs.Ytfoncmeplofedaq
open Go.RowKit
set_option linter.unusedVariables false
theorem ret_boolS {a b : Bool} (h : a = b) : Ending.returned (.bool a) = .returned (.bool b) := by rw [h]
set_option maxHeartbeats 2000000 in
set_option maxRecDepth 100000 in
theorem specStoreOk_any (va : Value) (l : List Bl) (w : World) (ha : RdB w va l) (hl : l.length ≤ 1048576) (hs : ∀ p ∈ l, p.2.size ≤ 1048576) :
    Calls Try.prog 54 #[va] w fun e w' => e = .returned (.bool (storeB l)) ∧ Below w.heap.size w w' := by
  by_cases h300 : 300 < l.length
  focus
    have e := storeB_len (l := l) (by omega)
    rw [e]
    obtain ⟨ao, cap, rfl⟩ := rdB_shape ha
    have hI : (300 : Int) < (l.length : Int) := by omega
    clear e
    go_enter Try.func54, Try.ntmps54
    go_wp2
    go_ret
    exact ⟨rfl, Below.refl _ _⟩
  have hI : ¬ (300 : Int) < (l.length : Int) := by omega
  rcases rdB_cases ha with ⟨h0, ao, cap, rfl⟩ | ⟨hp, b, off, cap, rfl, _, hlt, hc⟩
  · subst h0
    have e : storeB [] = true := rfl
    rw [e]
    go_enter Try.func54, Try.ntmps54
    go_wp2
    refine wp_loop_rounds 1 ?_
    rw [rounds_succ]
    go_wp2
    go_ret
    exact ⟨rfl, Below.refl _ _⟩
  have HA := Lib.hid hc
  have HNO : Hid (∀ i, i < l.length → ¬ ((l.getD i bl0).2.size ≤ 2000 ∧ (l.getD i bl0).1 = digest (l.getD i bl0).2 ∧ (i = 0 ∨ (l.getD (i - 1) bl0).1 < (l.getD i bl0).1)) → storeB l = false) := fun i hi h => storeB_at hi (by
    cases hk : okAt l i with
    | false => rfl
    | true => exact absurd (okAt_iff.1 hk) h)
  have HYES : Hid ((∀ i, i < l.length → ((l.getD i bl0).2.size ≤ 2000 ∧ (l.getD i bl0).1 = digest (l.getD i bl0).2 ∧ (i = 0 ∨ (l.getD (i - 1) bl0).1 < (l.getD i bl0).1))) → storeB l = true) := fun h => storeB_all (by omega) (fun i hi => okAt_iff.2 (h i hi))
  have HS : Hid (∀ i, i < l.length → (l.getD i bl0).2.size ≤ 1048576) := fun i hi => by
    rw [getD_at hi]
    exact hs _ (List.getElem_mem hi)
  generalize storeB l = r at HNO HYES ⊢
  obtain ⟨n, hn⟩ : ∃ n, n = l.length := ⟨_, rfl⟩
  rw [← hn] at hp hl hI h300 HA HNO HYES HS ⊢
  clear hc ha hn hs
  go_enter Try.func54, Try.ntmps54
  go_wp2
  go_loopw [3] (fun i wr => ∃ k q : Nat, k ≤ n ∧ i = .int .i64 k ∧ wr = w.drewN q ∧ Hid (∀ i, i < k → ((l.getD i bl0).2.size ≤ 2000 ∧ (l.getD i bl0).1 = digest (l.getD i bl0).2 ∧ (i = 0 ∨ (l.getD (i - 1) bl0).1 < (l.getD i bl0).1)))) (fun i _ => n - (intOf i).toNat)
  case atStart => exact ⟨0, 0, Nat.zero_le _, rfl, rfl, fun i h => by omega⟩
  case round =>
    obtain ⟨k, q, hk, rfl, rfl, hok⟩ := hrel
    by_cases hltk : k < n
    focus
      obtain ⟨d0, d1⟩ := HA.out k hltk
      have hsz := HS.out k hltk
      have HNk := Lib.hid (HNO.out k hltk)
      have hnew : Hid (((l.getD k bl0).2.size ≤ 2000 ∧ (l.getD k bl0).1 = digest (l.getD k bl0).2 ∧ (k = 0 ∨ (l.getD (k - 1) bl0).1 < (l.getD k bl0).1)) → ∀ i, i < k + 1 → ((l.getD i bl0).2.size ≤ 2000 ∧ (l.getD i bl0).1 = digest (l.getD i bl0).2 ∧ (i = 0 ∨ (l.getD (i - 1) bl0).1 < (l.getD i bl0).1))) := fun h i hi => by
        rcases Nat.lt_or_ge i k with g | g
        · exact hok.out i g
        · obtain rfl : i = k := by omega
          exact h
      have hprev : 0 < k → w.cell? ⟨b, off + (k - 1) * 2, none⟩ = some (.int .i64 (l.getD (k - 1) bl0).1) := fun h => (HA.out (k - 1) (by omega)).1
      obtain ⟨t, ht⟩ : ∃ t, t = (l.getD k bl0).2 := ⟨_, rfl⟩
      obtain ⟨x, hx⟩ : ∃ x, x = (l.getD k bl0).1 := ⟨_, rfl⟩
      obtain ⟨y, hy⟩ : ∃ y, y = (l.getD (k - 1) bl0).1 := ⟨_, rfl⟩
      rw [← ht] at d1 hsz
      rw [← hx] at d0
      rw [← hy] at hprev
      rw [← ht, ← hx, ← hy] at HNk hnew
      clear ht hx hy hok
      have hltI : (k : Int) < (n : Int) := by omega
      obtain ⟨dg, hdg⟩ : ∃ dg, dg = digest t := ⟨_, rfl⟩
      have HX : Hid (digest t = dg) := hdg.symm
      rw [← hdg] at HNk hnew
      clear hdg
      by_cases h2 : 2000 < t.size
      focus
        have HR := Lib.hid (HNk.out (fun h => by omega))
        clear HNk hnew hprev
        go_wp2
        have g1 : decide ((2000 : Int) < (t.size : Int)) = true := decide_eq_true (by omega)
        go_quiet (first | (go_at_call 48; refine (specDigest_any t _ (by omega)).mono ?_; rintro e w8 ⟨rfl, rfl⟩; rw [HX.out]; exact ⟨rfl, ⟨_, rfl⟩⟩))
        go_wp2
        go_ret
        exact ⟨ret_boolS HR.out.symm, by first | exact below_drewN (Below.refl _ _) _ | exact below_drewN (below_drewN (Below.refl _ _) _) _⟩
      by_cases hxd : x = dg
      rotate_left
      focus
        have HR := Lib.hid (HNk.out (fun h => hxd h.2.1))
        clear HNk hnew hprev
        go_wp2
        have g1 : decide ((2000 : Int) < (t.size : Int)) = false := decide_eq_false (by omega)
        have g2 : (x == dg) = false := beq_eq_false_iff_ne.2 hxd
        have g3 : (x != dg) = true := by simp [hxd]
        go_quiet (first | (go_at_call 48; refine (specDigest_any t _ (by omega)).mono ?_; rintro e w8 ⟨rfl, rfl⟩; rw [HX.out]; exact ⟨rfl, ⟨_, rfl⟩⟩))
        go_wp2
        go_ret
        exact ⟨ret_boolS HR.out.symm, by first | exact below_drewN (Below.refl _ _) _ | exact below_drewN (below_drewN (Below.refl _ _) _) _⟩
      subst hxd
      by_cases hk0 : k = 0
      focus
        have HN := Lib.hid (hnew.out ⟨by omega, rfl, Or.inl hk0⟩)
        clear HNk hnew hprev
        go_wp2
        have g1 : decide ((2000 : Int) < (t.size : Int)) = false := decide_eq_false (by omega)
        have g2 : decide (0 < k) = false := decide_eq_false (by omega)
        clear hk0
        go_quiet (first | (go_at_call 48; refine (specDigest_any t _ (by omega)).mono ?_; rintro e w8 ⟨rfl, rfl⟩; rw [HX.out]; exact ⟨rfl, ⟨_, rfl⟩⟩))
        go_wp2
        go_roundw
        case rel => exact ⟨k + 1, _, by omega, by go_num, rfl, HN⟩
        case measure => simp [intOf]; omega
      have d2 := hprev (by omega)
      obtain ⟨j, hj⟩ : ∃ j : Nat, (k : Int) - 1 = (j : Int) := ⟨k - 1, by omega⟩
      have hjk : k - 1 = j := by omega
      rw [hjk] at d2
      have hjn : j < n := by omega
      by_cases hle : x ≤ y
      focus
        have HR := Lib.hid (HNk.out (fun h => by omega))
        clear HNk hnew hprev hjk
        go_wp2
        have g1 : decide ((2000 : Int) < (t.size : Int)) = false := decide_eq_false (by omega)
        have g2 : decide (0 < k) = true := decide_eq_true (by omega)
        have g3 : decide (x ≤ y) = true := decide_eq_true hle
        go_quiet (first | (go_at_call 48; refine (specDigest_any t _ (by omega)).mono ?_; rintro e w8 ⟨rfl, rfl⟩; rw [HX.out]; exact ⟨rfl, ⟨_, rfl⟩⟩))
        go_wp2
        go_ret
        exact ⟨ret_boolS HR.out.symm, by first | exact below_drewN (Below.refl _ _) _ | exact below_drewN (below_drewN (Below.refl _ _) _) _⟩
      have HN := Lib.hid (hnew.out ⟨by omega, rfl, Or.inr (by omega)⟩)
      clear HNk hnew hprev hjk
      go_wp2
      have g1 : decide ((2000 : Int) < (t.size : Int)) = false := decide_eq_false (by omega)
      have g2 : decide (0 < k) = true := decide_eq_true (by omega)
      have g3 : decide (x ≤ y) = false := decide_eq_false (by omega)
      go_quiet (first | (go_at_call 48; refine (specDigest_any t _ (by omega)).mono ?_; rintro e w8 ⟨rfl, rfl⟩; rw [HX.out]; exact ⟨rfl, ⟨_, rfl⟩⟩))
      go_wp2
      go_roundw
      case rel => exact ⟨k + 1, _, by omega, by go_num, rfl, HN⟩
      case measure => simp [intOf]; omega
    have HR := Lib.hid (HYES.out (fun i hi => hok.out i (by omega)))
    have hltI : ¬ (k : Int) < (n : Int) := by omega
    go_wp2
    go_ret
    exact ⟨ret_boolS HR.out.symm, by first | exact below_drewN (Below.refl _ _) _ | exact below_drewN (below_drewN (Below.refl _ _) _) _⟩
/-- where the first of a digest is -/
def idxB (l : List Bl) (d : Int) : Option Nat := l.findIdx? fun p => p.1 == d
theorem idxB_is {l : List Bl} {d : Int} {k : Nat} (hk : k < l.length) (h : (l.getD k bl0).1 = d) (hn : ∀ j, j < k → (l.getD j bl0).1 ≠ d) : idxB l d = some k ∧ findB l d = some (l.getD k bl0) := by
  unfold idxB findB
  constructor
  · rw [List.findIdx?_eq_some_iff_getElem]
    refine ⟨hk, by rw [← getD_at hk]; exact beq_iff_eq.2 h, fun j hj => ?_⟩
    have := hn j hj
    rw [getD_at (by omega)] at this
    simp [this]
  · rw [List.find?_eq_some_iff_getElem]
    refine ⟨beq_iff_eq.2 h, k, hk, by rw [getD_at hk], fun j hj => ?_⟩
    have := hn j hj
    rw [getD_at (by omega)] at this
    simp [this]
theorem idxB_no {l : List Bl} {d : Int} (hn : ∀ j, j < l.length → (l.getD j bl0).1 ≠ d) : idxB l d = none ∧ findB l d = none := by
  have h : ∀ p ∈ l, p.1 ≠ d := fun p hp => by
    obtain ⟨j, hj, rfl⟩ := List.getElem_of_mem hp
    have := hn j hj
    rwa [getD_at hj] at this
  refine ⟨?_, findB_none.2 h⟩
  unfold idxB
  rw [List.findIdx?_eq_none_iff]
  exact fun p hp => by simp [h p hp]
def findI (l : List Bl) (d : Int) : Int := match idxB l d with
  | some k => (k : Int)
  | none => -1
set_option maxRecDepth 100000 in
theorem l7Find_any (va : Value) (l : List Bl) (d : Int) (w : World) (ha : RdB w va l) (hl : l.length ≤ 1048576) :
    Calls Try.prog 68 #[va, .int .i64 d] w fun e w' => e = .returned (.int .i64 (findI l d)) ∧ w' = w := by
  rcases rdB_cases ha with ⟨h0, ao, cap, rfl⟩ | ⟨hp, b, off, cap, rfl, _, hlt, hc⟩
  · subst h0
    have e : findI [] d = -1 := rfl
    rw [e]
    go_enter Try.func68, Try.ntmps68
    go_wp2
    refine wp_loop_rounds 1 ?_
    rw [rounds_succ]
    go_wp2
    go_ret
    exact ⟨rfl, rfl⟩
  have HA := Lib.hid hc
  have HY : Hid (∀ k, k < l.length → (l.getD k bl0).1 = d → (∀ j, j < k → (l.getD j bl0).1 ≠ d) → findI l d = (k : Int)) := fun k hk h hn => by
    unfold findI
    rw [(idxB_is hk h hn).1]
  have HN : Hid ((∀ j, j < l.length → (l.getD j bl0).1 ≠ d) → findI l d = -1) := fun h => by
    unfold findI
    rw [(idxB_no h).1]
  generalize findI l d = r at HY HN ⊢
  obtain ⟨n, hn⟩ : ∃ n, n = l.length := ⟨_, rfl⟩
  rw [← hn] at hp hl HA HY HN ⊢
  clear hc ha hn
  go_enter Try.func68, Try.ntmps68
  go_wp2
  go_loop [5] (fun i => ∃ k : Nat, k ≤ n ∧ i = .int .i64 k ∧ Hid (∀ j, j < k → (l.getD j bl0).1 ≠ d)) (fun i => n - (intOf i).toNat)
  case atStart => exact ⟨0, Nat.zero_le _, rfl, fun j h => by omega⟩
  case round =>
    obtain ⟨k, hk, rfl, hno⟩ := hrel
    by_cases hltk : k < n
    focus
      obtain ⟨d0, _⟩ := HA.out k hltk
      have HYk := Lib.hid (fun h => HY.out k hltk h hno.out)
      have hnew : Hid ((l.getD k bl0).1 ≠ d → ∀ j, j < k + 1 → (l.getD j bl0).1 ≠ d) := fun h j hj => by
        rcases Nat.lt_or_ge j k with g | g
        · exact hno.out j g
        · obtain rfl : j = k := by omega
          exact h
      obtain ⟨x, hx⟩ : ∃ x, x = (l.getD k bl0).1 := ⟨_, rfl⟩
      rw [← hx] at d0 HYk hnew
      clear hx hno
      by_cases hxd : x = d
      focus
        have HR := Lib.hid (HYk.out hxd)
        subst hxd
        clear HYk hnew
        go_wp2
        go_ret
        exact ⟨ret_int HR.out.symm, rfl⟩
      have HS := Lib.hid (hnew.out hxd)
      have g1 : (x == d) = false := beq_eq_false_iff_ne.2 hxd
      clear HYk hnew
      go_wp2
      go_round
      case rel => exact ⟨k + 1, by omega, by go_num, HS⟩
      case measure => simp [intOf]; omega
    have HR := Lib.hid (HN.out (fun j hj => hno.out j (by omega)))
    go_wp2
    go_ret
    exact ⟨ret_int HR.out.symm, rfl⟩
set_option maxRecDepth 100000 in
theorem l1Has_any (va : Value) (l : List Int) (d : Int) (w : World) (ha : Rd w va (cellsInt64S l)) (hl : l.length ≤ 1048576) :
    Calls Try.prog 55 #[va, .int .i64 d] w fun e w' => e = .returned (.bool (l.contains d)) ∧ w' = w := by
  have hla : (cellsInt64S l).length = l.length := by simp
  rcases rd_cases ha with ⟨h0, ao, cap, rfl⟩ | ⟨hp, b, off, cap, rfl, _, hlt, hc⟩
  · have hx : l = [] := by simpa using h0
    subst hx
    go_enter Try.func55, Try.ntmps55
    go_wp2
    refine wp_loop_rounds 1 ?_
    rw [rounds_succ]
    go_wp2
    go_ret
    exact ⟨rfl, rfl⟩
  rw [hla] at hc hp ⊢
  have HA : Hid (∀ j, j < l.length → w.cell? ⟨b, off + j, none⟩ = some (.int .i64 (l.getD j 0))) := fun j hj => (hc j hj).trans (ints_get _ l j hj)
  have HY : Hid (∀ k, k < l.length → l.getD k 0 = d → l.contains d = true) := fun k hk h => by
    have e : l.getD k 0 = l[k] := by simp [List.getD, hk]
    rw [e] at h
    rw [← h]
    simp
  have HN : Hid ((∀ j, j < l.length → l.getD j 0 ≠ d) → l.contains d = false) := fun h => by
    cases hcn : l.contains d with
    | false => rfl
    | true =>
      have hm : d ∈ l := by simpa using hcn
      obtain ⟨j, hj, e⟩ := List.getElem_of_mem hm
      exact absurd (by simp [List.getD, hj, e]) (h j hj)
  generalize l.contains d = r at HY HN ⊢
  obtain ⟨n, hn⟩ : ∃ n, n = l.length := ⟨_, rfl⟩
  rw [← hn] at hp hl HA HY HN ⊢
  clear hc ha hn hla
  go_enter Try.func55, Try.ntmps55
  go_wp2
  go_loop [5] (fun i => ∃ k : Nat, k ≤ n ∧ i = .int .i64 k ∧ Hid (∀ j, j < k → l.getD j 0 ≠ d)) (fun i => n - (intOf i).toNat)
  case atStart => exact ⟨0, Nat.zero_le _, rfl, fun j h => by omega⟩
  case round =>
    obtain ⟨k, hk, rfl, hno⟩ := hrel
    by_cases hltk : k < n
    focus
      have d0 := HA.out k hltk
      have HYk := Lib.hid (fun h => HY.out k hltk h)
      have hnew : Hid (l.getD k 0 ≠ d → ∀ j, j < k + 1 → l.getD j 0 ≠ d) := fun h j hj => by
        rcases Nat.lt_or_ge j k with g | g
        · exact hno.out j g
        · obtain rfl : j = k := by omega
          exact h
      obtain ⟨x, hx⟩ : ∃ x, x = l.getD k 0 := ⟨_, rfl⟩
      rw [← hx] at d0 HYk hnew
      clear hx hno
      by_cases hxd : x = d
      focus
        have HR := Lib.hid (HYk.out hxd)
        subst hxd
        clear HYk hnew
        go_wp2
        go_ret
        exact ⟨ret_boolS HR.out.symm, rfl⟩
      have HS := Lib.hid (hnew.out hxd)
      have g1 : (x == d) = false := beq_eq_false_iff_ne.2 hxd
      clear HYk hnew
      go_wp2
      go_round
      case rel => exact ⟨k + 1, by omega, by go_num, HS⟩
      case measure => simp [intOf]; omega
    have HR := Lib.hid (HN.out (fun j hj => hno.out j (by omega)))
    go_wp2
    go_ret
    exact ⟨ret_boolS HR.out.symm, rfl⟩
end Go.Proofs.Ytfoncmeplofedaq
