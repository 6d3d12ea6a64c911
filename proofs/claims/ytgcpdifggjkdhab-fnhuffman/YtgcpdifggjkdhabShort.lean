/- CONTRACTS: counts and lengths: the specification's l5Counts, l5Lengths, Cost, Kraft. -/
import Derived.Test.YtgcpdifggjkdhabCodeMath
import Derived.Test.YtgcpdifggjkdhabRoll
namespace Go.Proofs.Ytgcpdifggjkdhab
open Go.RowKit

def allIn (l : List Int) (hi : Int) : Bool := decide (1 ≤ l.length ∧ l.length ≤ 32) && decide (∀ i, i < l.length → 1 ≤ l.getD i 0 ∧ l.getD i 0 ≤ hi)
theorem allIn_no {l : List Int} {hi : Int} {i : Nat} (h : i < l.length) (k : ¬ (1 ≤ l.getD i 0 ∧ l.getD i 0 ≤ hi)) : allIn l hi = false := by
  unfold allIn
  rw [decide_eq_false (p := ∀ i, i < l.length → 1 ≤ l.getD i 0 ∧ l.getD i 0 ≤ hi) (fun a => k (a i h)), Bool.and_false]
theorem allIn_len {l : List Int} {hi : Int} (h : ¬ (1 ≤ l.length ∧ l.length ≤ 32)) : allIn l hi = false := by
  unfold allIn
  rw [decide_eq_false h, Bool.false_and]
theorem allIn_yes {l : List Int} {hi : Int} (h : 1 ≤ l.length ∧ l.length ≤ 32) (k : ∀ i, i < l.length → 1 ≤ l.getD i 0 ∧ l.getD i 0 ≤ hi) : allIn l hi = true := by
  unfold allIn
  rw [decide_eq_true h, decide_eq_true k]
  rfl
theorem allIn_out {l : List Int} {hi : Int} (h : allIn l hi = true) : (1 ≤ l.length ∧ l.length ≤ 32) ∧ ∀ i, i < l.length → 1 ≤ l.getD i 0 ∧ l.getD i 0 ≤ hi := by
  unfold allIn at h
  rw [Bool.and_eq_true] at h
  exact ⟨of_decide_eq_true h.1, of_decide_eq_true h.2⟩
/-- the sum of counts times lengths -/
def costN (c l : List Int) (k : Nat) : Int := ((List.range k).map fun i => c.getD i 0 * l.getD i 0).sum
theorem costN_succ (c l : List Int) (k : Nat) : costN c l (k + 1) = costN c l k + c.getD k 0 * l.getD k 0 := by
  unfold costN
  rw [List.range_succ, List.map_append, List.sum_append]
  simp
def costT (c l : List Int) : Int := if (allIn c 100000 && allIn l 40 && decide (l.length = c.length)) = true then costN c l c.length else -1
/-- the sum of 1 / 2^length, in 2^40ths -/
def kraftK (l : List Int) (k : Nat) : Nat := Huff.kraftF 40 (fun i => (l.getD i 0).toNat) k
theorem kraftK_succ (l : List Int) (k : Nat) : kraftK l (k + 1) = kraftK l k + 2 ^ (40 - (l.getD k 0).toNat) := by
  unfold kraftK Huff.kraftF
  rw [List.range_succ, List.map_append, List.sum_append]
  simp
def kraftB (l : List Int) : Bool := allIn l 40 && decide (kraftK l l.length ≤ 1099511627776)

set_option maxRecDepth 100000 in
theorem l5Counts_any (va : Value) (l : List Int) (w : World) (ha : Rd w va (cellsInt64S l)) (hl : l.length ≤ 1099511627776) :
    Calls Try.prog 67 #[va] w fun e w' => e = .returned (.bool (allIn l 100000)) ∧ w' = w := by
  have hla : (cellsInt64S l).length = l.length := by simp
  obtain ⟨ao, cap, rfl, hcap, hx⟩ := ha
  rw [hla] at hcap hx ⊢
  have HX : Hid (∀ j, j < l.length → ∃ b off, ao = some ⟨b, off, none⟩ ∧ w.cell? ⟨b, off + j, none⟩ = some (.int .i64 (l.getD j 0))) := fun j hj => by
    obtain ⟨b, off, h1, h2, h3⟩ := hx (by intro h; rw [h] at hla; simp at hla; omega)
    exact ⟨b, off, h1, (h3 j hj).trans (ints_get _ l j hj)⟩
  have HNO : Hid (∀ i, i < l.length → ¬ (1 ≤ l.getD i 0 ∧ l.getD i 0 ≤ 100000) → allIn l 100000 = false) := fun i a b => allIn_no a b
  have HYES : Hid ((1 ≤ l.length ∧ l.length ≤ 32) → (∀ i, i < l.length → 1 ≤ l.getD i 0 ∧ l.getD i 0 ≤ 100000) → allIn l 100000 = true) := fun a b => allIn_yes a b
  have HLEN : Hid (¬ (1 ≤ l.length ∧ l.length ≤ 32) → allIn l 100000 = false) := allIn_len
  clear hx hla
  generalize allIn l 100000 = c at HNO HYES HLEN ⊢
  obtain ⟨n, hn⟩ : ∃ n, n = l.length := ⟨_, rfl⟩
  rw [← hn] at hcap HX HNO HYES HLEN hl ⊢
  clear hn
  by_cases h0 : n < 1
  · have hcf := HLEN.out (by omega)
    subst hcf
    have hI : (n : Int) < 1 := by omega
    clear HX HNO HYES HLEN
    go_enter Try.func67, Try.ntmps67
    go_wp2
    go_ret
    exact ⟨rfl, rfl⟩
  by_cases h32 : 32 < n
  · have hcf := HLEN.out (by omega)
    subst hcf
    have hI : 32 < (n : Int) := by omega
    have hI0 : ¬ (n : Int) < 1 := by omega
    clear HX HNO HYES HLEN
    go_enter Try.func67, Try.ntmps67
    go_wp2
    go_ret
    exact ⟨rfl, rfl⟩
  have hI : ¬ 32 < (n : Int) := by omega
  have hI0 : ¬ (n : Int) < 1 := by omega
  have HY := HYES.out (by omega)
  have HYES2 : Hid ((∀ i, i < n → 1 ≤ l.getD i 0 ∧ l.getD i 0 ≤ 100000) → c = true) := HY
  clear HYES HLEN HY
  go_enter Try.func67, Try.ntmps67
  go_wp2
  go_loop [3] (fun i => ∃ k : Nat, i = .int .i64 k ∧ k ≤ n ∧ Hid (∀ m, m < k → 1 ≤ l.getD m 0 ∧ l.getD m 0 ≤ 100000)) (fun i => n - (intOf i).toNat)
  case atStart => exact ⟨0, rfl, Nat.zero_le _, fun m h => by omega⟩
  case round =>
    obtain ⟨k, rfl, hk, h1⟩ := hrel
    by_cases hlt : k < n
    focus
      obtain ⟨b, off, rfl, hc⟩ := HX.out k hlt
      obtain ⟨x, hxx⟩ : ∃ x, x = l.getD k 0 := ⟨_, rfl⟩
      have HXX : Hid (x = l.getD k 0) := hxx
      rw [← hxx] at hc
      clear hxx
      by_cases hin : 1 ≤ x ∧ x ≤ 100000
      · have hd : decide (1 ≤ x ∧ x ≤ 100000) = true := decide_eq_true hin
        have h2 : Hid (∀ m, m < k + 1 → 1 ≤ l.getD m 0 ∧ l.getD m 0 ≤ 100000) := fun m hm => by
          rcases Nat.lt_or_ge m k with h | h
          · exact h1.out m h
          · obtain rfl : m = k := by omega
            rw [← HXX.out]; exact hin
        clear hin
        go_wp2_with fail
        refine (l1In_any _ _ _ _).mono ?_
        rintro e w1 ⟨rfl, rfl⟩
        rw [hd]
        go_wp2
        go_round
        case rel => exact ⟨k + 1, by go_num, by omega, h2⟩
        case measure => simp [intOf]; omega
      · have hd : decide (1 ≤ x ∧ x ≤ 100000) = false := decide_eq_false hin
        have hcf : Hid (c = false) := HNO.out k hlt (by rw [← HXX.out]; exact hin)
        clear hin
        go_wp2_with fail
        refine (l1In_any _ _ _ _).mono ?_
        rintro e w1 ⟨rfl, rfl⟩
        rw [hd]
        go_wp2
        go_ret
        exact ⟨by rw [hcf.out]; rfl, rfl⟩
    have hct : Hid (c = true) := HYES2.out fun i hi => h1.out i (by omega)
    clear HX HNO HYES2 h1
    go_wp2
    go_ret
    exact ⟨by rw [hct.out]; rfl, rfl⟩

set_option maxRecDepth 100000 in
theorem l5Lengths_any (va : Value) (l : List Int) (w : World) (ha : Rd w va (cellsInt64S l)) (hl : l.length ≤ 1099511627776) :
    Calls Try.prog 70 #[va] w fun e w' => e = .returned (.bool (allIn l 40)) ∧ w' = w := by
  have hla : (cellsInt64S l).length = l.length := by simp
  obtain ⟨ao, cap, rfl, hcap, hx⟩ := ha
  rw [hla] at hcap hx ⊢
  have HX : Hid (∀ j, j < l.length → ∃ b off, ao = some ⟨b, off, none⟩ ∧ w.cell? ⟨b, off + j, none⟩ = some (.int .i64 (l.getD j 0))) := fun j hj => by
    obtain ⟨b, off, h1, h2, h3⟩ := hx (by intro h; rw [h] at hla; simp at hla; omega)
    exact ⟨b, off, h1, (h3 j hj).trans (ints_get _ l j hj)⟩
  have HNO : Hid (∀ i, i < l.length → ¬ (1 ≤ l.getD i 0 ∧ l.getD i 0 ≤ 40) → allIn l 40 = false) := fun i a b => allIn_no a b
  have HYES : Hid ((1 ≤ l.length ∧ l.length ≤ 32) → (∀ i, i < l.length → 1 ≤ l.getD i 0 ∧ l.getD i 0 ≤ 40) → allIn l 40 = true) := fun a b => allIn_yes a b
  have HLEN : Hid (¬ (1 ≤ l.length ∧ l.length ≤ 32) → allIn l 40 = false) := allIn_len
  clear hx hla
  generalize allIn l 40 = c at HNO HYES HLEN ⊢
  obtain ⟨n, hn⟩ : ∃ n, n = l.length := ⟨_, rfl⟩
  rw [← hn] at hcap HX HNO HYES HLEN hl ⊢
  clear hn
  by_cases h0 : n < 1
  · have hcf := HLEN.out (by omega)
    subst hcf
    have hI : (n : Int) < 1 := by omega
    clear HX HNO HYES HLEN
    go_enter Try.func70, Try.ntmps70
    go_wp2
    go_ret
    exact ⟨rfl, rfl⟩
  by_cases h32 : 32 < n
  · have hcf := HLEN.out (by omega)
    subst hcf
    have hI : 32 < (n : Int) := by omega
    have hI0 : ¬ (n : Int) < 1 := by omega
    clear HX HNO HYES HLEN
    go_enter Try.func70, Try.ntmps70
    go_wp2
    go_ret
    exact ⟨rfl, rfl⟩
  have hI : ¬ 32 < (n : Int) := by omega
  have hI0 : ¬ (n : Int) < 1 := by omega
  have HY := HYES.out (by omega)
  have HYES2 : Hid ((∀ i, i < n → 1 ≤ l.getD i 0 ∧ l.getD i 0 ≤ 40) → c = true) := HY
  clear HYES HLEN HY
  go_enter Try.func70, Try.ntmps70
  go_wp2
  go_loop [3] (fun i => ∃ k : Nat, i = .int .i64 k ∧ k ≤ n ∧ Hid (∀ m, m < k → 1 ≤ l.getD m 0 ∧ l.getD m 0 ≤ 40)) (fun i => n - (intOf i).toNat)
  case atStart => exact ⟨0, rfl, Nat.zero_le _, fun m h => by omega⟩
  case round =>
    obtain ⟨k, rfl, hk, h1⟩ := hrel
    by_cases hlt : k < n
    focus
      obtain ⟨b, off, rfl, hc⟩ := HX.out k hlt
      obtain ⟨x, hxx⟩ : ∃ x, x = l.getD k 0 := ⟨_, rfl⟩
      have HXX : Hid (x = l.getD k 0) := hxx
      rw [← hxx] at hc
      clear hxx
      by_cases hin : 1 ≤ x ∧ x ≤ 40
      · have hd : decide (1 ≤ x ∧ x ≤ 40) = true := decide_eq_true hin
        have h2 : Hid (∀ m, m < k + 1 → 1 ≤ l.getD m 0 ∧ l.getD m 0 ≤ 40) := fun m hm => by
          rcases Nat.lt_or_ge m k with h | h
          · exact h1.out m h
          · obtain rfl : m = k := by omega
            rw [← HXX.out]; exact hin
        clear hin
        go_wp2_with fail
        refine (l1In_any _ _ _ _).mono ?_
        rintro e w1 ⟨rfl, rfl⟩
        rw [hd]
        go_wp2
        go_round
        case rel => exact ⟨k + 1, by go_num, by omega, h2⟩
        case measure => simp [intOf]; omega
      · have hd : decide (1 ≤ x ∧ x ≤ 40) = false := decide_eq_false hin
        have hcf : Hid (c = false) := HNO.out k hlt (by rw [← HXX.out]; exact hin)
        clear hin
        go_wp2_with fail
        refine (l1In_any _ _ _ _).mono ?_
        rintro e w1 ⟨rfl, rfl⟩
        rw [hd]
        go_wp2
        go_ret
        exact ⟨by rw [hcf.out]; rfl, rfl⟩
    have hct : Hid (c = true) := HYES2.out fun i hi => h1.out i (by omega)
    clear HX HNO HYES2 h1
    go_wp2
    go_ret
    exact ⟨by rw [hct.out]; rfl, rfl⟩

theorem costN_in {c l : List Int} (hc : allIn c 100000 = true) (hl : allIn l 40 = true) : ∀ k, k ≤ c.length → k ≤ l.length → 0 ≤ costN c l k ∧ costN c l k ≤ (k : Int) * 4000000 := by
  intro k
  induction k with
  | zero => intro _ _; exact ⟨by simp [costN], by simp [costN]⟩
  | succ k ih =>
    intro h1 h2
    obtain ⟨h3, h4⟩ := ih (by omega) (by omega)
    rw [costN_succ]
    obtain ⟨h5, h6⟩ := (allIn_out hc).2 k (by omega)
    obtain ⟨h7, h8⟩ := (allIn_out hl).2 k (by omega)
    have h9 : 0 ≤ c.getD k 0 * l.getD k 0 := Int.mul_nonneg (by omega) (by omega)
    have h10 : c.getD k 0 * l.getD k 0 ≤ 100000 * 40 := Int.mul_le_mul h6 h8 (by omega) (by omega)
    omega
theorem costT_no {c l : List Int} (h : ¬ (allIn c 100000 = true ∧ allIn l 40 = true ∧ l.length = c.length)) : costT c l = -1 := by
  unfold costT
  rw [if_neg]
  intro k
  rw [Bool.and_eq_true, Bool.and_eq_true, decide_eq_true_eq] at k
  exact h ⟨k.1.1, k.1.2, k.2⟩
theorem costT_yes {c l : List Int} (h1 : allIn c 100000 = true) (h2 : allIn l 40 = true) (h3 : l.length = c.length) : costT c l = costN c l c.length := by
  unfold costT
  rw [if_pos (by rw [h1, h2, decide_eq_true h3]; rfl)]

set_option maxRecDepth 100000 in
theorem specCost_any (va vb : Value) (c l : List Int) (w : World) (ha : Rd w va (cellsInt64S c)) (hb : Rd w vb (cellsInt64S l)) (hcl : c.length ≤ 1099511627776) (hll : l.length ≤ 1099511627776) :
    Calls Try.prog 24 #[va, vb] w fun e w' => e = .returned (.int .i64 (costT c l)) ∧ ∃ d, w' = w.drewN d := by
  have H1 := l5Counts_any va c w ha hcl
  have H2 := l5Lengths_any vb l w hb hll
  have hin := fun a b => @costN_in c l a b
  have hno := @costT_no c l
  have hyes := @costT_yes c l
  have hlA : (cellsInt64S c).length = c.length := by simp
  have hlB : (cellsInt64S l).length = l.length := by simp
  obtain ⟨ao, cap, rfl, hcap, hx⟩ := ha
  obtain ⟨bo, cbp, rfl, hcbp, hy⟩ := hb
  rw [hlA] at hcap hx H1 ⊢
  rw [hlB] at hcbp hy H2 ⊢
  have HX : Hid (∀ j, j < c.length → ∃ b off, ao = some ⟨b, off, none⟩ ∧ w.cell? ⟨b, off + j, none⟩ = some (.int .i64 (c.getD j 0))) := fun j hj => by
    obtain ⟨b, off, h1, h2, h3⟩ := hx (by intro h; rw [h] at hlA; simp at hlA; omega)
    exact ⟨b, off, h1, (h3 j hj).trans (ints_get _ c j hj)⟩
  have HY : Hid (∀ j, j < l.length → ∃ b off, bo = some ⟨b, off, none⟩ ∧ w.cell? ⟨b, off + j, none⟩ = some (.int .i64 (l.getD j 0))) := fun j hj => by
    obtain ⟨b, off, h1, h2, h3⟩ := hy (by intro h; rw [h] at hlB; simp at hlB; omega)
    exact ⟨b, off, h1, (h3 j hj).trans (ints_get _ l j hj)⟩
  clear hx hy hlA hlB
  cases h1 : allIn c 100000
  focus
    rw [h1] at H1
    rw [hno (by rw [h1]; simp)]
    clear hin hno hyes HX HY H2 h1
    go_enter Try.func24, Try.ntmps24
    go_wp2_with fail
    refine H1.mono ?_
    rintro e u ⟨rfl, hu⟩
    replace hu := hu.symm
    subst hu
    clear H1
    go_wp2
    go_ret
    exact ⟨rfl, 0, rfl⟩
  cases h2 : allIn l 40
  focus
    rw [h1] at H1
    rw [h2] at H2
    rw [hno (by rw [h2]; simp)]
    clear hin hno hyes HX HY h1 h2
    go_enter Try.func24, Try.ntmps24
    go_wp2_with fail
    refine H1.mono ?_
    rintro e u ⟨rfl, hu⟩
    replace hu := hu.symm
    subst hu
    go_wp2_with fail
    refine H2.mono ?_
    rintro e u ⟨rfl, hu⟩
    replace hu := hu.symm
    subst hu
    clear H1 H2
    go_wp2
    go_ret
    exact ⟨rfl, 0, rfl⟩
  by_cases h3 : l.length = c.length
  focus
    have HV : Hid (∀ k, k < c.length → (1 ≤ c.getD k 0 ∧ c.getD k 0 ≤ 100000) ∧ (1 ≤ l.getD k 0 ∧ l.getD k 0 ≤ 40) ∧ costN c l (k + 1) = costN c l k + c.getD k 0 * l.getD k 0) := fun k hk => ⟨(allIn_out h1).2 k hk, (allIn_out h2).2 k (by omega), costN_succ c l k⟩
    have HI : Hid (∀ k, k ≤ c.length → 0 ≤ costN c l k ∧ costN c l k ≤ (k : Int) * 4000000) := fun k hk => hin h1 h2 k hk (by omega)
    have h32 := (allIn_out h1).1.2
    have he := hyes h1 h2 h3
    have hz : costN c l 0 = 0 := rfl
    rw [h1] at H1
    rw [h2] at H2
    rw [h3] at H2 HY ⊢
    rw [he]
    generalize costN c l = f at HV HI hz ⊢
    obtain ⟨n, hn⟩ : ∃ n, n = c.length := ⟨_, rfl⟩
    rw [← hn] at H1 H2 HX HY HV HI h32 ⊢
    clear hin hno hyes he h1 h2 h3 hn hcap hcbp hcl hll
    have hne : ((n : Int) != (n : Int)) = false := by simp
    go_enter Try.func24, Try.ntmps24
    go_wp2_with fail
    refine H1.mono ?_
    rintro e u ⟨rfl, hu⟩
    replace hu := hu.symm
    subst hu
    go_wp2_with fail
    refine H2.mono ?_
    rintro e u ⟨rfl, hu⟩
    replace hu := hu.symm
    subst hu
    clear H1 H2
    go_wp2
    go_loopw [5, 6] (fun s i wr => ∃ k d : Nat, i = .int .i64 k ∧ s = .int .i64 (f k) ∧ k ≤ n ∧ wr = w.drewN d) (fun _ i _ => n - (intOf i).toNat)
    case atStart => exact ⟨0, 0, rfl, by rw [hz], Nat.zero_le _, rfl⟩
    case round =>
      obtain ⟨k, d, rfl, rfl, hk, rfl⟩ := hrel
      by_cases hlt : k < n
      focus
        obtain ⟨b, off, rfl, hc⟩ := HX.out k hlt
        obtain ⟨b2, off2, rfl, hc2⟩ := HY.out k hlt
        obtain ⟨⟨hx1, hx2⟩, ⟨hy1, hy2⟩, hs⟩ := HV.out k hlt
        obtain ⟨hi0, hi1⟩ := HI.out k hk
        obtain ⟨x, hx⟩ : ∃ x, x = c.getD k 0 := ⟨_, rfl⟩
        obtain ⟨y, hy⟩ : ∃ y, y = l.getD k 0 := ⟨_, rfl⟩
        rw [← hx] at hc hx1 hx2 hs
        rw [← hy] at hc2 hy1 hy2 hs
        have hp0 : 0 ≤ x * y := Int.mul_nonneg (by omega) (by omega)
        have hp1 : x * y ≤ 100000 * 40 := Int.mul_le_mul hx2 hy2 (by omega) (by omega)
        have HS : Hid (f (k + 1) = f k + x * y) := hs
        obtain ⟨p, hpp⟩ : ∃ p, p = f k := ⟨_, rfl⟩
        rw [← hpp] at hi0 hi1 ⊢
        have HP : Hid (p = f k) := hpp
        have hww : wrap64 (x * y) = x * y := IntWalk.wrap64_in _ ⟨by omega, by omega⟩
        clear hx hy hs hpp hz hne
        go_wp2
        go_quiet (fail)
        go_wp2
        go_roundw
        case rel => exact ⟨k + 1, _, by go_num, by rw [HS.out, ← HP.out], by omega, rfl⟩
        case measure => simp [intOf]; omega
      have hkn : k = n := by omega
      subst hkn
      have hkI : ¬ (k : Int) < (k : Int) := by omega
      clear HX HY HV HI
      go_wp2
      go_ret
      exact ⟨rfl, _, rfl⟩
  rw [hno (by rintro ⟨_, _, h⟩; exact h3 h)]
  have hne : ((l.length : Int) != (c.length : Int)) = true := by simp; omega
  rw [h1] at H1
  rw [h2] at H2
  clear hin hno hyes HX HY h1 h2 h3
  go_enter Try.func24, Try.ntmps24
  go_wp2_with fail
  refine H1.mono ?_
  rintro e u ⟨rfl, hu⟩
  replace hu := hu.symm
  subst hu
  go_wp2_with fail
  refine H2.mono ?_
  rintro e u ⟨rfl, hu⟩
  replace hu := hu.symm
  subst hu
  clear H1 H2
  go_wp2
  go_ret
  exact ⟨rfl, 0, rfl⟩

theorem kraftK_in {l : List Int} (hl : allIn l 40 = true) : ∀ k, k ≤ l.length → kraftK l k ≤ k * 549755813888 := by
  intro k
  induction k with
  | zero => intro _; simp [kraftK, Huff.kraftF]
  | succ k ih =>
    intro h
    have h1 := ih (by omega)
    have h2 := (allIn_out hl).2 k (by omega)
    rw [kraftK_succ]
    have : 2 ^ (40 - (l.getD k 0).toNat) ≤ 2 ^ 39 := Nat.pow_le_pow_right (by omega) (by omega)
    omega
theorem shl_one {x : Int} (h1 : 1 ≤ x) (h2 : x ≤ 40) : wrap64 (2 ^ (40 - x).toNat) = ((2 ^ (40 - x.toNat) : Nat) : Int) ∧ 1 ≤ 2 ^ (40 - x.toNat) ∧ 2 ^ (40 - x.toNat) ≤ 549755813888 := by
  have h3 : 2 ^ (40 - x.toNat) ≤ 2 ^ 39 := Nat.pow_le_pow_right (by omega) (by omega)
  have h4 : 1 ≤ 2 ^ (40 - x.toNat) := Nat.two_pow_pos _
  refine ⟨?_, h4, h3⟩
  rw [show (40 - x).toNat = 40 - x.toNat by omega]
  have e : (2 : Int) ^ (40 - x.toNat) = ((2 ^ (40 - x.toNat) : Nat) : Int) := by rw [Int.natCast_pow]; rfl
  rw [e, IntWalk.wrap64_in _ ⟨by omega, by omega⟩]

set_option maxRecDepth 100000 in
theorem specKraft_any (va : Value) (l : List Int) (w : World) (ha : Rd w va (cellsInt64S l)) (hll : l.length ≤ 1099511627776) :
    Calls Try.prog 26 #[va] w fun e w' => e = .returned (.bool (kraftB l)) ∧ w' = w := by
  have H1 := l5Lengths_any va l w ha hll
  have hlA : (cellsInt64S l).length = l.length := by simp
  obtain ⟨ao, cap, rfl, hcap, hx⟩ := ha
  rw [hlA] at hcap hx H1 ⊢
  have HX : Hid (∀ j, j < l.length → ∃ b off, ao = some ⟨b, off, none⟩ ∧ w.cell? ⟨b, off + j, none⟩ = some (.int .i64 (l.getD j 0))) := fun j hj => by
    obtain ⟨b, off, h1, h2, h3⟩ := hx (by intro h; rw [h] at hlA; simp at hlA; omega)
    exact ⟨b, off, h1, (h3 j hj).trans (ints_get _ l j hj)⟩
  clear hx hlA
  cases h1 : allIn l 40
  focus
    have e : kraftB l = false := by unfold kraftB; rw [h1]; rfl
    rw [h1] at H1
    rw [e]
    clear HX h1 e
    go_enter Try.func26, Try.ntmps26
    go_wp2_with fail
    refine H1.mono ?_
    rintro e u ⟨rfl, hu⟩
    replace hu := hu.symm
    subst hu
    clear H1
    go_wp2
    go_ret
    exact ⟨rfl, rfl⟩
  have e : kraftB l = decide ((kraftK l l.length : Int) ≤ 1099511627776) := by
    unfold kraftB
    rw [h1, Bool.true_and]
    simp only [decide_eq_decide]
    omega
  have HV : Hid (∀ k, k < l.length → (1 ≤ l.getD k 0 ∧ l.getD k 0 ≤ 40) ∧ kraftK l (k + 1) = kraftK l k + 2 ^ (40 - (l.getD k 0).toNat)) := fun k hk => ⟨(allIn_out h1).2 k hk, kraftK_succ l k⟩
  have HI : Hid (∀ k, k ≤ l.length → kraftK l k ≤ k * 549755813888) := fun k hk => kraftK_in h1 k hk
  have h32 := (allIn_out h1).1.2
  have hz : kraftK l 0 = 0 := rfl
  rw [h1] at H1
  rw [e]
  generalize kraftK l = f at HV HI hz ⊢
  obtain ⟨n, hn⟩ : ∃ n, n = l.length := ⟨_, rfl⟩
  rw [← hn] at H1 HX HV HI h32 ⊢
  clear e h1 hn hcap hll
  go_enter Try.func26, Try.ntmps26
  go_wp2_with fail
  refine H1.mono ?_
  rintro e u ⟨rfl, hu⟩
  replace hu := hu.symm
  subst hu
  clear H1
  go_wp2
  go_loop [3, 4] (fun s i => ∃ k : Nat, i = .int .i64 k ∧ s = .int .i64 (f k) ∧ k ≤ n) (fun _ i => n - (intOf i).toNat)
  case atStart => exact ⟨0, rfl, by rw [hz]; rfl, Nat.zero_le _⟩
  case round =>
    obtain ⟨k, rfl, rfl, hk⟩ := hrel
    have hi1 := HI.out k hk
    by_cases hlt : k < n
    focus
      obtain ⟨b, off, rfl, hc⟩ := HX.out k hlt
      obtain ⟨⟨hx1, hx2⟩, hs⟩ := HV.out k hlt
      obtain ⟨x, hx⟩ : ∃ x, x = l.getD k 0 := ⟨_, rfl⟩
      rw [← hx] at hc hx1 hx2 hs
      obtain ⟨hw, hq1, hq2⟩ := shl_one hx1 hx2
      obtain ⟨q, hq⟩ : ∃ q, q = 2 ^ (40 - x.toNat) := ⟨_, rfl⟩
      rw [← hq] at hs hw hq1 hq2
      have HS : Hid (f (k + 1) = f k + q) := hs
      obtain ⟨p, hpp⟩ : ∃ p, p = f k := ⟨_, rfl⟩
      rw [← hpp] at hi1 ⊢
      have HP : Hid (p = f k) := hpp
      clear hx hs hpp hz hq
      go_wp2
      go_round
      case rel => exact ⟨k + 1, by go_num, by rw [HS.out, ← HP.out]; go_num, by omega⟩
      case measure => simp [intOf]; omega
    have hkn : k = n := by omega
    subst hkn
    have hkI : ¬ (k : Int) < (k : Int) := by omega
    clear HX HV HI
    go_wp2
    go_ret
    exact ⟨rfl, rfl⟩

end Go.Proofs.Ytgcpdifggjkdhab
