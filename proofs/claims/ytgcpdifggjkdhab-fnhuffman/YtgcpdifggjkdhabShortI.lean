/- CONTRACTS: the program's areFew, Cost, Kraft. -/
import Derived.Test.YtgcpdifggjkdhabShort
namespace Go.Proofs.Ytgcpdifggjkdhab
open Go.RowKit
set_option linter.unusedVariables false

set_option maxRecDepth 100000 in
theorem areFew_any (va : Value) (l : List Int) (hi : Int) (w : World) (ha : Rd w va (cellsInt64S l)) (hl : l.length ≤ 1099511627776) (hh1 : 40 ≤ hi) (hh2 : hi ≤ 100000) :
    Calls Try.prog 62 #[va, .int .i64 hi] w fun e w' => e = .returned (.bool (allIn l hi)) ∧ w' = w := by
  have hla : (cellsInt64S l).length = l.length := by simp
  obtain ⟨ao, cap, rfl, hcap, hx⟩ := ha
  rw [hla] at hcap hx ⊢
  have HX : Hid (∀ j, j < l.length → ∃ b off, ao = some ⟨b, off, none⟩ ∧ w.cell? ⟨b, off + j, none⟩ = some (.int .i64 (l.getD j 0))) := fun j hj => by
    obtain ⟨b, off, h1, h2, h3⟩ := hx (by intro h; rw [h] at hla; simp at hla; omega)
    exact ⟨b, off, h1, (h3 j hj).trans (ints_get _ l j hj)⟩
  have HNO : Hid (∀ i, i < l.length → ¬ (1 ≤ l.getD i 0 ∧ l.getD i 0 ≤ hi) → allIn l hi = false) := fun i a b => allIn_no a b
  have HYES : Hid ((1 ≤ l.length ∧ l.length ≤ 32) → (∀ i, i < l.length → 1 ≤ l.getD i 0 ∧ l.getD i 0 ≤ hi) → allIn l hi = true) := fun a b => allIn_yes a b
  have HLEN : Hid (¬ (1 ≤ l.length ∧ l.length ≤ 32) → allIn l hi = false) := allIn_len
  clear hx hla
  generalize allIn l hi = c at HNO HYES HLEN ⊢
  obtain ⟨n, hn⟩ : ∃ n, n = l.length := ⟨_, rfl⟩
  rw [← hn] at hcap HX HNO HYES HLEN hl ⊢
  clear hn
  go_enter Try.func62, Try.ntmps62
  go_wp2
  go_loop [9] (fun i => ∃ k : Nat, i = .int .i64 k ∧ k ≤ n ∧ Hid (∀ m, m < k → 1 ≤ l.getD m 0 ∧ l.getD m 0 ≤ hi)) (fun i => n - (intOf i).toNat)
  case atStart => exact ⟨0, rfl, Nat.zero_le _, fun m h => by omega⟩
  case round =>
    obtain ⟨k, rfl, hk, h1⟩ := hrel
    by_cases hlt : k < n
    focus
      obtain ⟨b, off, rfl, hc⟩ := HX.out k hlt
      obtain ⟨x, hxx⟩ : ∃ x, x = l.getD k 0 := ⟨_, rfl⟩
      have HXX : Hid (x = l.getD k 0) := hxx
      rw [← hxx] at hc
      clear hxx
      by_cases hin : 1 ≤ x ∧ x ≤ hi
      · have h2 : Hid (∀ m, m < k + 1 → 1 ≤ l.getD m 0 ∧ l.getD m 0 ≤ hi) := fun m hm => by
          rcases Nat.lt_or_ge m k with h | h
          · exact h1.out m h
          · obtain rfl : m = k := by omega
            rw [← HXX.out]; exact hin
        obtain ⟨hin1, hin2⟩ := hin
        have hi1 : ¬ x < 1 := by omega
        have hi2 : ¬ hi < x := by omega
        go_wp2
        go_round
        case rel => exact ⟨k + 1, by go_num, by omega, h2⟩
        case measure => simp [intOf]; omega
      · have hcf : Hid (c = false) := HNO.out k hlt (by rw [← HXX.out]; exact hin)
        clear HX HNO HYES HLEN h1
        by_cases hi1 : x < 1
        · clear hin
          go_wp2
          go_ret
          exact ⟨by rw [hcf.out]; rfl, rfl⟩
        · have hi2 : hi < x := by omega
          clear hin
          go_wp2
          go_ret
          exact ⟨by rw [hcf.out]; rfl, rfl⟩
    obtain rfl : k = n := by omega
    by_cases h0 : 1 ≤ k
    · by_cases h32 : k ≤ 32
      · have hct : Hid (c = true) := HYES.out ⟨h0, h32⟩ h1.out
        clear HX HNO HYES HLEN h1
        go_wp2
        go_ret
        exact ⟨by rw [hct.out]; show Ending.returned (Value.bool (decide ((k : Int) ≤ 32))) = _; rw [decide_eq_true (by omega)], rfl⟩
      · have hct : Hid (c = false) := HLEN.out (by omega)
        clear HX HNO HYES HLEN h1
        go_wp2
        go_ret
        exact ⟨by rw [hct.out]; show Ending.returned (Value.bool (decide ((k : Int) ≤ 32))) = _; rw [decide_eq_false (by omega)], rfl⟩
    · have hct : Hid (c = false) := HLEN.out (by omega)
      clear HX HNO HYES HLEN h1
      go_wp2
      go_ret
      exact ⟨by rw [hct.out]; rfl, rfl⟩

set_option maxRecDepth 100000 in
theorem implCost_any (va vb : Value) (c l : List Int) (w : World) (ha : Rd w va (cellsInt64S c)) (hb : Rd w vb (cellsInt64S l)) (hcl : c.length ≤ 1099511627776) (hll : l.length ≤ 1099511627776) :
    Calls Try.prog 23 #[va, vb] w fun e w' => e = .returned (.int .i64 (costT c l)) ∧ w' = w := by
  have H1 := areFew_any va c 100000 w ha hcl (by omega) (by omega)
  have H2 := areFew_any vb l 40 w hb hll (by omega) (by omega)
  have hin := fun a b => @costN_in c l a b
  have hno := @costT_no c l
  have hyes := @costT_yes c l
  have hlA : (cellsInt64S c).length = c.length := by simp
  have hlB : (cellsInt64S l).length = l.length := by simp
  obtain ⟨ao, cap, rfl, hcap, hx⟩ := ha
  obtain ⟨bo, cbp, rfl, hcbp, hy⟩ := hb
  rw [hlA] at hcap hx H1 ⊢
  rw [hlB] at hcbp hy H2 ⊢
  have HX : Hid (∀ j, j < c.length → ∃ b off, ao = some ⟨b, off, none⟩ ∧ w.cell? ⟨b, off + j, none⟩ = some (.int .i64 (c.getD j 0))) := fun j hj => by
    obtain ⟨b, off, h1, h2, h3⟩ := hx (by intro h; rw [h] at hlA; simp at hlA; omega)
    exact ⟨b, off, h1, (h3 j hj).trans (ints_get _ c j hj)⟩
  have HY : Hid (∀ j, j < l.length → ∃ b off, bo = some ⟨b, off, none⟩ ∧ w.cell? ⟨b, off + j, none⟩ = some (.int .i64 (l.getD j 0))) := fun j hj => by
    obtain ⟨b, off, h1, h2, h3⟩ := hy (by intro h; rw [h] at hlB; simp at hlB; omega)
    exact ⟨b, off, h1, (h3 j hj).trans (ints_get _ l j hj)⟩
  clear hx hy hlA hlB
  cases h1 : allIn c 100000
  focus
    rw [h1] at H1
    rw [hno (by rw [h1]; simp)]
    clear hin hno hyes HX HY H2 h1
    go_enter Try.func23, Try.ntmps23
    go_wp2_with fail
    refine H1.mono ?_
    rintro e u ⟨rfl, hu⟩
    replace hu := hu.symm
    subst hu
    clear H1
    go_wp2
    go_ret
    exact ⟨rfl, rfl⟩
  cases h2 : allIn l 40
  focus
    rw [h1] at H1
    rw [h2] at H2
    rw [hno (by rw [h2]; simp)]
    clear hin hno hyes HX HY h1 h2
    go_enter Try.func23, Try.ntmps23
    go_wp2_with fail
    refine H1.mono ?_
    rintro e u ⟨rfl, hu⟩
    replace hu := hu.symm
    subst hu
    go_wp2_with fail
    refine H2.mono ?_
    rintro e u ⟨rfl, hu⟩
    replace hu := hu.symm
    subst hu
    clear H1 H2
    go_wp2
    go_ret
    exact ⟨rfl, rfl⟩
  by_cases h3 : l.length = c.length
  focus
    have HV : Hid (∀ k, k < c.length → (1 ≤ c.getD k 0 ∧ c.getD k 0 ≤ 100000) ∧ (1 ≤ l.getD k 0 ∧ l.getD k 0 ≤ 40) ∧ costN c l (k + 1) = costN c l k + c.getD k 0 * l.getD k 0) := fun k hk => ⟨(allIn_out h1).2 k hk, (allIn_out h2).2 k (by omega), costN_succ c l k⟩
    have HI : Hid (∀ k, k ≤ c.length → 0 ≤ costN c l k ∧ costN c l k ≤ (k : Int) * 4000000) := fun k hk => hin h1 h2 k hk (by omega)
    have h32 := (allIn_out h1).1.2
    have he := hyes h1 h2 h3
    have hz : costN c l 0 = 0 := rfl
    rw [h1] at H1
    rw [h2] at H2
    rw [h3] at H2 HY ⊢
    rw [he]
    generalize costN c l = f at HV HI hz ⊢
    obtain ⟨n, hn⟩ : ∃ n, n = c.length := ⟨_, rfl⟩
    rw [← hn] at H1 H2 HX HY HV HI h32 ⊢
    clear hin hno hyes he h1 h2 h3 hn hcap hcbp hcl hll
    have hne : ((n : Int) != (n : Int)) = false := by simp
    go_enter Try.func23, Try.ntmps23
    go_wp2_with fail
    refine H1.mono ?_
    rintro e u ⟨rfl, hu⟩
    replace hu := hu.symm
    subst hu
    go_wp2_with fail
    refine H2.mono ?_
    rintro e u ⟨rfl, hu⟩
    replace hu := hu.symm
    subst hu
    clear H1 H2
    go_wp2
    go_loop [5, 25] (fun s i => ∃ k : Nat, i = .int .i64 k ∧ s = .int .i64 (f k) ∧ k ≤ n) (fun _ i => n - (intOf i).toNat)
    case atStart => exact ⟨0, rfl, by rw [hz], Nat.zero_le _⟩
    case round =>
      obtain ⟨k, rfl, rfl, hk⟩ := hrel
      by_cases hlt : k < n
      focus
        obtain ⟨b, off, rfl, hc⟩ := HX.out k hlt
        obtain ⟨b2, off2, rfl, hc2⟩ := HY.out k hlt
        obtain ⟨⟨hx1, hx2⟩, ⟨hy1, hy2⟩, hs⟩ := HV.out k hlt
        obtain ⟨hi0, hi1⟩ := HI.out k hk
        obtain ⟨x, hx⟩ : ∃ x, x = c.getD k 0 := ⟨_, rfl⟩
        obtain ⟨y, hy⟩ : ∃ y, y = l.getD k 0 := ⟨_, rfl⟩
        rw [← hx] at hc hx1 hx2 hs
        rw [← hy] at hc2 hy1 hy2 hs
        have hp0 : 0 ≤ x * y := Int.mul_nonneg (by omega) (by omega)
        have hp1 : x * y ≤ 100000 * 40 := Int.mul_le_mul hx2 hy2 (by omega) (by omega)
        have HS : Hid (f (k + 1) = f k + x * y) := hs
        obtain ⟨p, hpp⟩ : ∃ p, p = f k := ⟨_, rfl⟩
        rw [← hpp] at hi0 hi1 ⊢
        have HP : Hid (p = f k) := hpp
        have hww : wrap64 (x * y) = x * y := IntWalk.wrap64_in _ ⟨by omega, by omega⟩
        clear hx hy hs hpp hz hne
        go_wp2
        go_round
        case rel => exact ⟨k + 1, by go_num, by rw [HS.out, ← HP.out], by omega⟩
        case measure => simp [intOf]; omega
      have hkn : k = n := by omega
      subst hkn
      have hkI : ¬ (k : Int) < (k : Int) := by omega
      clear HX HY HV HI
      go_wp2
      go_ret
      exact ⟨rfl, rfl⟩
  rw [hno (by rintro ⟨_, _, h⟩; exact h3 h)]
  have hne : ((c.length : Int) != (l.length : Int)) = true := by simp; omega
  rw [h1] at H1
  rw [h2] at H2
  clear hin hno hyes HX HY h1 h2 h3
  go_enter Try.func23, Try.ntmps23
  go_wp2_with fail
  refine H1.mono ?_
  rintro e u ⟨rfl, hu⟩
  replace hu := hu.symm
  subst hu
  go_wp2_with fail
  refine H2.mono ?_
  rintro e u ⟨rfl, hu⟩
  replace hu := hu.symm
  subst hu
  clear H1 H2
  go_wp2
  go_ret
  exact ⟨rfl, rfl⟩

set_option maxRecDepth 100000 in
theorem implKraft_any (va : Value) (l : List Int) (w : World) (ha : Rd w va (cellsInt64S l)) (hll : l.length ≤ 1099511627776) :
    Calls Try.prog 25 #[va] w fun e w' => e = .returned (.bool (kraftB l)) ∧ w' = w := by
  have H1 := areFew_any va l 40 w ha hll (by omega) (by omega)
  have hlA : (cellsInt64S l).length = l.length := by simp
  obtain ⟨ao, cap, rfl, hcap, hx⟩ := ha
  rw [hlA] at hcap hx H1 ⊢
  have HX : Hid (∀ j, j < l.length → ∃ b off, ao = some ⟨b, off, none⟩ ∧ w.cell? ⟨b, off + j, none⟩ = some (.int .i64 (l.getD j 0))) := fun j hj => by
    obtain ⟨b, off, h1, h2, h3⟩ := hx (by intro h; rw [h] at hlA; simp at hlA; omega)
    exact ⟨b, off, h1, (h3 j hj).trans (ints_get _ l j hj)⟩
  clear hx hlA
  cases h1 : allIn l 40
  focus
    have e : kraftB l = false := by unfold kraftB; rw [h1]; rfl
    rw [h1] at H1
    rw [e]
    clear HX h1 e
    go_enter Try.func25, Try.ntmps25
    go_wp2_with fail
    refine H1.mono ?_
    rintro e u ⟨rfl, hu⟩
    replace hu := hu.symm
    subst hu
    clear H1
    go_wp2
    go_ret
    exact ⟨rfl, rfl⟩
  have e : kraftB l = decide ((kraftK l l.length : Int) ≤ 1099511627776) := by
    unfold kraftB
    rw [h1, Bool.true_and]
    simp only [decide_eq_decide]
    omega
  have HV : Hid (∀ k, k < l.length → (1 ≤ l.getD k 0 ∧ l.getD k 0 ≤ 40) ∧ kraftK l (k + 1) = kraftK l k + 2 ^ (40 - (l.getD k 0).toNat)) := fun k hk => ⟨(allIn_out h1).2 k hk, kraftK_succ l k⟩
  have HI : Hid (∀ k, k ≤ l.length → kraftK l k ≤ k * 549755813888) := fun k hk => kraftK_in h1 k hk
  have h32 := (allIn_out h1).1.2
  have hz : kraftK l 0 = 0 := rfl
  rw [h1] at H1
  rw [e]
  generalize kraftK l = f at HV HI hz ⊢
  obtain ⟨n, hn⟩ : ∃ n, n = l.length := ⟨_, rfl⟩
  rw [← hn] at H1 HX HV HI h32 ⊢
  clear e h1 hn hcap hll
  go_enter Try.func25, Try.ntmps25
  go_wp2_with fail
  refine H1.mono ?_
  rintro e u ⟨rfl, hu⟩
  replace hu := hu.symm
  subst hu
  clear H1
  go_wp2
  go_loop [3, 11] (fun s i => ∃ k : Nat, i = .int .i64 k ∧ s = .int .i64 (f k) ∧ k ≤ n) (fun _ i => n - (intOf i).toNat)
  case atStart => exact ⟨0, rfl, by rw [hz]; rfl, Nat.zero_le _⟩
  case round =>
    obtain ⟨k, rfl, rfl, hk⟩ := hrel
    have hi1 := HI.out k hk
    by_cases hlt : k < n
    focus
      obtain ⟨b, off, rfl, hc⟩ := HX.out k hlt
      obtain ⟨⟨hx1, hx2⟩, hs⟩ := HV.out k hlt
      obtain ⟨x, hx⟩ : ∃ x, x = l.getD k 0 := ⟨_, rfl⟩
      rw [← hx] at hc hx1 hx2 hs
      obtain ⟨hw, hq1, hq2⟩ := shl_one hx1 hx2
      obtain ⟨q, hq⟩ : ∃ q, q = 2 ^ (40 - x.toNat) := ⟨_, rfl⟩
      rw [← hq] at hs hw hq1 hq2
      have HS : Hid (f (k + 1) = f k + q) := hs
      obtain ⟨p, hpp⟩ : ∃ p, p = f k := ⟨_, rfl⟩
      rw [← hpp] at hi1 ⊢
      have HP : Hid (p = f k) := hpp
      clear hx hs hpp hz hq
      go_wp2
      go_round
      case rel => exact ⟨k + 1, by go_num, by rw [HS.out, ← HP.out]; go_num, by omega⟩
      case measure => simp [intOf]; omega
    have hkn : k = n := by omega
    subst hkn
    have hkI : ¬ (k : Int) < (k : Int) := by omega
    clear HX HV HI
    go_wp2
    go_ret
    exact ⟨rfl, rfl⟩
end Go.Proofs.Ytgcpdifggjkdhab
