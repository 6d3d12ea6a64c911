/- CONTRACTS: where a text is cut first: the specification's (l1Min, l4Next, Next). -/
import Derived.Test.YtndecefcnalgdaaRule
import Derived.Test.YtndecefcnalgdaaCutMath
namespace Go.Proofs.Ytndecefcnalgdaa
open Go.RowKit

/-- a right rule -/
abbrev okRule (W : Nat) (P : Int) (L M : Nat) : Prop := (1 ≤ W ∧ W ≤ 16) ∧ (1 ≤ P ∧ P ≤ 1000) ∧ (W ≤ L ∧ L ≤ 1000) ∧ (L ≤ M ∧ M ≤ 1000)
theorem ruleB_ok {W P L M : Int} (h : ruleB W P L M = true) : ∃ W' L' M' : Nat, W = W' ∧ L = L' ∧ M = M' ∧ okRule W' P L' M' := by
  unfold ruleB at h
  simp only [Bool.and_eq_true, decide_eq_true_eq] at h
  exact ⟨W.toNat, L.toNat, M.toNat, by omega, by omega, by omega, by omega, by omega, by omega, by omega⟩
theorem ok_ruleB {W : Nat} {P : Int} {L M : Nat} (h : okRule W P L M) : ruleB W P L M = true := by
  unfold ruleB
  simp only [Bool.and_eq_true, decide_eq_true_eq]
  omega
/-- what Next tells -/
def nextT (s : ByteArray) (W P L M : Int) : Int := if ruleB W P L M = true then (nextL W.toNat P L.toNat M.toNat (byts s) : Int) else -1
theorem nextT_ok (s : ByteArray) {W : Nat} {P : Int} {L M : Nat} (h : okRule W P L M) : nextT s W P L M = (nextL W P L M (byts s) : Int) := by
  unfold nextT
  rw [if_pos (ok_ruleB h)]
  rfl

theorem l1Min_any (a b : Int) (w : World) :
    Calls Try.prog 100 #[.int .i64 a, .int .i64 b] w fun e w' => e = .returned (.int .i64 (min a b)) ∧ w' = w := by
  by_cases h : a < b
  · have e : min a b = a := by omega
    rw [e]
    clear e
    go_enter Try.func100, Try.ntmps100
    go_wp2
    go_ret
    exact ⟨rfl, rfl⟩
  · have e : min a b = b := by omega
    rw [e]
    clear e
    go_enter Try.func100, Try.ntmps100
    go_wp2
    go_ret
    exact ⟨rfl, rfl⟩

set_option maxHeartbeats 1000000 in
set_option maxRecDepth 100000 in
theorem l4Next_in (s : ByteArray) (W : Nat) (P : Int) (L M : Nat) (w : World) (hs : s.size ≤ 9223372036854775807) (hr : okRule W P L M) :
    Calls Try.prog 92 #[.string s, ruleV W P L M] w fun e w' => e = .returned (.int .i64 (nextL W P L M (byts s))) ∧ Below w.heap.size w w' := by
  obtain ⟨⟨hW1, hW2⟩, ⟨hP1, hP2⟩, ⟨hL1, hL2⟩, hM1, hM2⟩ := hr
  have hP0 : (P == 0) = false := beq_eq_false_iff_ne.2 (by omega)
  have hbl := byts_len s
  have HN : Hid (∀ n, L ≤ n → n < M → n ≤ s.size → hit (byts s) W P n → (∀ j, L ≤ j → j < n → ¬ hit (byts s) W P j) → nextL W P L M (byts s) = n) := fun n a b c d e => nextL_hit a b (by omega) d e
  have HE : Hid ((∀ j, L ≤ j → j < M → j ≤ s.size → ¬ hit (byts s) W P j) → nextL W P L M (byts s) = min M s.size) := fun h => by
    rw [nextL_none (fun j a b c => h j a b (by omega)), hbl]
  go_enter Try.func92, Try.ntmps92
  go_wp2
  have hB : Below w.heap.size w (w.alloc (.cells #[.int .i64 (W : Int), .int .i64 P, .int .i64 (L : Int), .int .i64 (M : Int)] 56)) := (Below.refl _ _).alloc (Nat.le_refl _) _
  have hbx := heap_alloc_new w (.cells #[.int .i64 (W : Int), .int .i64 P, .int .i64 (L : Int), .int .i64 (M : Int)] 56)
  obtain ⟨d0, d1, d2, d3⟩ := rule_cells rfl hbx
  clear hbx
  generalize w.alloc (.cells #[.int .i64 (W : Int), .int .i64 P, .int .i64 (L : Int), .int .i64 (M : Int)] 56) = w1 at hB d0 d1 d2 d3 ⊢
  go_loopw [6] (fun n wr => ∃ k d : Nat, L ≤ k ∧ k ≤ M ∧ n = .int .i64 k ∧ wr = w1.drewN d ∧ Hid (∀ j, L ≤ j → j < k → ¬ hit (byts s) W P j)) (fun n _ => M - (intOf n).toNat)
  case atStart => exact ⟨L, 0, Nat.le_refl _, hM1, rfl, rfl, fun j a b => by omega⟩
  case round =>
    obtain ⟨k, d, hk1, hk2, rfl, rfl, hj⟩ := hrel
    by_cases hkM : k < M
    focus
      by_cases hks : k ≤ s.size
      focus
        have hks' : (k : Int) ≤ (s.size : Int) := by omega
        have hsl : ∀ W' : World, (Instr.slice 9 (.string s) (some (.int .i64 ((k : Int) - (W : Int)))) (some (.int .i64 (k : Int))) none).run Try.prog W' = .ok (.string (s.extract (k - W) k)) W' := fun W' => by
          rw [run_slice_string _ 9 s .i64 .i64 _ _ Try.underlying9 (by omega) (by omega) (by omega)]
          rw [show ((k : Int) - (W : Int)).toNat = k - W by omega, show ((k : Int)).toNat = k by omega]
        have hwr : roll (s.extract (k - W) k) = rollL (((byts s).drop (k - W)).take W) := by
          have := wroll_eq s W (k - W)
          rwa [show k - W + W = k by omega] at this
        have hts : (s.extract (k - W) k).size ≤ 9223372036854775807 := by rw [ByteArray.size_extract]; omega
        have hri := roll_in (s.extract (k - W) k)
        obtain ⟨t, ht⟩ : ∃ t, t = s.extract (k - W) k := ⟨_, rfl⟩
        rw [← ht] at hsl hwr hts hri
        have HH : Hid (hit (byts s) W P k ↔ roll t % P = 0) := by show _ ↔ _; unfold hit; rw [hwr]
        obtain ⟨x, hx⟩ : ∃ x, x = roll t := ⟨_, rfl⟩
        have HX : Hid (roll t = x) := hx.symm
        rw [← hx] at hri HH
        obtain ⟨hx0, hx1⟩ := hri
        clear ht hwr hx
        by_cases hh : x % P = 0
        focus
          go_wp2
          go_quiet (first | (go_at_call 47; refine (specRoll_any t _ hts).mono ?_; rintro e w8 ⟨rfl, rfl⟩; rw [HX.out]; exact ⟨rfl, ⟨_, rfl⟩⟩))
          go_wp2
          go_ret
          exact ⟨by rw [HN.out k hk1 hkM hks (HH.out.2 hh) hj.out]; rfl, below_drewN (below_drewN hB _) _⟩
        go_wp2
        go_quiet (first | (go_at_call 47; refine (specRoll_any t _ hts).mono ?_; rintro e w8 ⟨rfl, rfl⟩; rw [HX.out]; exact ⟨rfl, ⟨_, rfl⟩⟩))
        go_wp2
        go_roundw
        case rel => exact ⟨k + 1, _, by omega, by omega, by go_num, rfl, fun j a b => by
          by_cases e : j = k
          · subst e; exact fun h => hh (HH.out.1 h)
          · exact hj.out j a (by omega)⟩
        case measure => simp [intOf]; omega
      have hks' : ¬ (k : Int) ≤ (s.size : Int) := by omega
      have HE2 : Hid (nextL W P L M (byts s) = min M s.size) := HE.out (fun j a b c => hj.out j a (by omega))
      clear HN HE hj
      go_wp2_with fail
      refine (l1Min_any _ _ _).mono ?_
      rintro e w8 ⟨rfl, rfl⟩
      go_wp2
      go_ret
      exact ⟨ret_int (by rw [HE2.out]; omega), below_drewN hB _⟩
    have HE2 : Hid (nextL W P L M (byts s) = min M s.size) := HE.out (fun j a b c => hj.out j a (by omega))
    clear HN HE hj
    go_wp2_with fail
    refine (l1Min_any _ _ _).mono ?_
    rintro e w8 ⟨rfl, rfl⟩
    go_wp2
    go_ret
    exact ⟨ret_int (by rw [HE2.out]; omega), below_drewN hB _⟩

set_option maxRecDepth 100000 in
theorem specNext_any (s : ByteArray) (W P L M : Int) (w : World) (hs : s.size ≤ 9223372036854775807) :
    Calls Try.prog 57 #[.string s, ruleV W P L M] w fun e w' => e = .returned (.int .i64 (nextT s W P L M)) ∧ Below w.heap.size w w' := by
  have hB : Below w.heap.size w (w.alloc (.cells #[.int .i64 W, .int .i64 P, .int .i64 L, .int .i64 M] 56)) := (Below.refl _ _).alloc (Nat.le_refl _) _
  have hbx := heap_alloc_new w (.cells #[.int .i64 W, .int .i64 P, .int .i64 L, .int .i64 M] 56)
  cases hr : ruleB W P L M with
  | false =>
    have e : nextT s W P L M = -1 := by unfold nextT; rw [hr]; rfl
    rw [e]
    clear e
    go_enter Try.func57, Try.ntmps57
    go_wp2_with fail
    refine (specRuleOk_any _ _ _ _ _).mono ?_
    rintro e w1 ⟨rfl, hb1⟩
    rw [hr]
    go_wp2
    go_ret
    exact ⟨rfl, hB.trans (hb1.mono (by simp))⟩
  | true =>
    obtain ⟨W, L, M, rfl, rfl, rfl, hok⟩ := ruleB_ok hr
    rw [nextT_ok s hok]
    go_enter Try.func57, Try.ntmps57
    go_wp2_with fail
    refine (specRuleOk_any _ _ _ _ _).mono ?_
    rintro e w1 ⟨rfl, hb1⟩
    rw [hr]
    obtain ⟨d0, d1, d2, d3⟩ := rule_cells (hb1.block w.heap.size (by simp)) hbx
    have hB1 := hB.trans (hb1.mono (by simp))
    clear hbx hb1 hB
    go_wp2_with fail
    refine (l4Next_in s W P L M _ hs hok).mono ?_
    rintro e w2 ⟨rfl, hb2⟩
    have hB2 := hB1.trans (hb2.mono hB1.size)
    go_wp2
    go_ret
    exact ⟨rfl, hB2⟩

end Go.Proofs.Ytndecefcnalgdaa
