/- CONTRACTS: a rolling number: impl's (with, folded, Roll, Power, isByte, Rolled), the specification's (Roll, l3Power, Power, Rolled). The mathematics ahead of them speaks of no program. -/
import Derived.Test.YtgcpdifggjkdhabDig
namespace Go.Proofs.Ytgcpdifggjkdhab
open Go.RowKit

/-- one byte more -/
def rStep (h b : Int) : Int := (h * 257 + b + 1) % 65521
def rollL (bs : List Int) : Int := bs.foldl rStep 0
/-- the number of a text -/
def roll (s : ByteArray) : Int := rollL (byts s)
/-- what n bytes more multiply by -/
def pw : Nat → Int
  | 0 => 1
  | n + 1 => pw n * 257 % 65521
/-- rolled on -/
def rolledF (h out inn : Int) (n : Nat) : Int := (257 * h - (out + 1) * pw n + inn + 1) % 65521

theorem rStep_in (h b : Int) : 0 ≤ rStep h b ∧ rStep h b ≤ 65520 := by
  unfold rStep; omega
theorem rollL_in (bs : List Int) : 0 ≤ rollL bs ∧ rollL bs ≤ 65520 := by
  unfold rollL
  suffices H : ∀ h, 0 ≤ h ∧ h ≤ 65520 → 0 ≤ bs.foldl rStep h ∧ bs.foldl rStep h ≤ 65520 from H 0 (by omega)
  induction bs with
  | nil => exact fun h hh => hh
  | cons b r ih => exact fun h _ => ih _ (rStep_in h b)
theorem rollL_snoc (bs : List Int) (k : Nat) (hk : k < bs.length) : rollL (bs.take (k + 1)) = rStep (rollL (bs.take k)) (bs.getD k 0) := by
  rw [take_snoc bs 0 k hk]
  simp [rollL]
theorem roll_in (s : ByteArray) : 0 ≤ roll s ∧ roll s ≤ 65520 := rollL_in _
theorem pw_in (n : Nat) : 0 ≤ pw n ∧ pw n ≤ 65520 := by
  induction n with
  | zero => simp [pw]
  | succ n ih => unfold pw; omega
theorem pw_succ (n : Nat) : pw (n + 1) = pw n * 257 % 65521 := rfl
theorem prod_in (o p : Int) (h0 : 0 ≤ o) (h1 : o ≤ 255) (p0 : 0 ≤ p) (p1 : p ≤ 65520) : 0 ≤ (o + 1) * p ∧ (o + 1) * p ≤ 16773120 := by
  have a := Int.mul_nonneg (show 0 ≤ o + 1 by omega) p0
  have b := Int.mul_le_mul (show o + 1 ≤ 256 by omega) p1 p0 (by omega)
  omega
theorem rolledF_in (h out inn : Int) (n : Nat) : 0 ≤ rolledF h out inn n ∧ rolledF h out inn n ≤ 65520 := by
  unfold rolledF; omega

theorem withR_any (h b : Int) (w : World) (h0 : 0 ≤ h) (h1 : h ≤ 65520) (b0 : 0 ≤ b) (b1 : b ≤ 255) :
    Calls Try.prog 120 #[.int .i64 h, .int .u8 b] w fun e w' => e = .returned (.int .i64 (rStep h b)) ∧ w' = w := by
  go_enter Try.func120, Try.ntmps120
  go_wp2
  go_ret
  exact ⟨ret_int (by unfold rStep; rfl), rfl⟩

theorem foldedR_any (s : ByteArray) (w : World) (hs : s.size ≤ 9223372036854775807) :
    Calls Try.prog 119 #[.string s, .int .i64 0, .func (.func 120) #[] #[]] w fun e w' => e = .returned (.int .i64 (rollL (byts s))) ∧ w' = w := by
  have hbl := byts_len s
  have HB : Hid ((byts s).length = s.size) := hbl
  clear hbl
  go_enter Try.func119, Try.ntmps119
  go_wp2
  go_loop [1, 10] (fun q i => ∃ k : Nat, k ≤ s.size ∧ q = .int .i64 (rollL ((byts s).take k)) ∧ i = .int .i64 k) (fun _ i => s.size - (intOf i).toNat)
  case atStart => exact ⟨0, Nat.zero_le _, rfl, rfl⟩
  case round =>
    obtain ⟨k, hk, rfl, rfl⟩ := hrel
    by_cases hlt : k < s.size
    · have hx := str_at s k hlt
      have hr := byts_range s k
      have hd := rollL_in ((byts s).take k)
      have hst : Hid (rollL ((byts s).take (k + 1)) = rStep (rollL ((byts s).take k)) ((byts s).getD k 0)) := rollL_snoc _ k (by rw [HB.out]; exact hlt)
      obtain ⟨x, hxx⟩ : ∃ x, x = (byts s).getD k 0 := ⟨_, rfl⟩
      rw [← hxx] at hx hr hst
      obtain ⟨d, hdd⟩ : ∃ d, d = rollL ((byts s).take k) := ⟨_, rfl⟩
      rw [← hdd] at hd hst ⊢
      clear hxx hdd
      obtain ⟨hr0, hr1⟩ := hr
      obtain ⟨hd0, hd1⟩ := hd
      go_wp2_with fail
      refine (withR_any d x _ hd0 hd1 hr0 hr1).mono ?_
      rintro e w' ⟨rfl, rfl⟩
      go_wp2
      go_round
      case rel => exact ⟨k + 1, by omega, by rw [hst.out], by go_num⟩
      case measure => simp [intOf]; omega
    · have e : rollL ((byts s).take k) = rollL (byts s) := by rw [List.take_of_length_le (by rw [HB.out]; omega)]
      rw [e]
      clear e
      go_wp2
      go_ret
      exact ⟨rfl, rfl⟩

theorem implRoll_any (s : ByteArray) (w : World) (hs : s.size ≤ 9223372036854775807) :
    Calls Try.prog 111 #[.string s] w fun e w' => e = .returned (.int .i64 (roll s)) ∧ w' = w := by
  have hd : Hid (roll s = rollL (byts s)) := rfl
  go_enter Try.func111, Try.ntmps111
  go_wp2_with fail
  refine (foldedR_any s _ hs).mono ?_
  rintro e w1 ⟨rfl, rfl⟩
  have hin := rollL_in (byts s)
  rw [← hd.out] at hin ⊢
  go_wp2
  go_ret
  exact ⟨rfl, rfl⟩

theorem specRoll_any (s : ByteArray) (w : World) (hs : s.size ≤ 9223372036854775807) :
    Calls Try.prog 118 #[.string s] w fun e w' => e = .returned (.int .i64 (roll s)) ∧ w' = w := by
  have HB : Hid ((byts s).length = s.size) := byts_len s
  have hD : Hid (roll s = rollL (byts s)) := rfl
  go_enter Try.func118, Try.ntmps118
  go_wp2
  go_loop [3, 4] (fun q i => ∃ k : Nat, k ≤ s.size ∧ q = .int .i64 (rollL ((byts s).take k)) ∧ i = .int .i64 k) (fun _ i => s.size - (intOf i).toNat)
  case atStart => exact ⟨0, Nat.zero_le _, rfl, rfl⟩
  case round =>
    obtain ⟨k, hk, rfl, rfl⟩ := hrel
    by_cases hlt : k < s.size
    · have hx := str_at s k hlt
      have hr := byts_range s k
      have hd := rollL_in ((byts s).take k)
      have hst : Hid (rollL ((byts s).take (k + 1)) = rStep (rollL ((byts s).take k)) ((byts s).getD k 0)) := rollL_snoc _ k (by rw [HB.out]; exact hlt)
      obtain ⟨x, hxx⟩ : ∃ x, x = (byts s).getD k 0 := ⟨_, rfl⟩
      rw [← hxx] at hx hr hst
      obtain ⟨d, hdd⟩ : ∃ d, d = rollL ((byts s).take k) := ⟨_, rfl⟩
      rw [← hdd] at hd hst ⊢
      clear hxx hdd
      obtain ⟨hr0, hr1⟩ := hr
      obtain ⟨hd0, hd1⟩ := hd
      go_wp2
      go_round
      case rel => exact ⟨k + 1, by omega, by rw [hst.out]; unfold rStep; rw [Int.mul_comm d 257], by go_num⟩
      case measure => simp [intOf]; omega
    · have e : rollL ((byts s).take k) = rollL (byts s) := by rw [List.take_of_length_le (by rw [HB.out]; omega)]
      rw [e, ← hD.out]
      clear e
      go_wp2
      go_ret
      exact ⟨rfl, rfl⟩

/-- what Power tells -/
def powerF (n : Int) : Int := if 0 ≤ n ∧ n ≤ 16 then pw n.toNat else -1

theorem implPower_in (n : Nat) (w : World) (hn : n ≤ 16) :
    Calls Try.prog 122 #[.int .i64 (n : Int)] w fun e w' => e = .returned (.int .i64 (pw n)) ∧ w' = w := by
  go_enter Try.func122, Try.ntmps122
  go_wp2
  go_loop [3, 11] (fun q i => ∃ k : Nat, k ≤ n ∧ q = .int .i64 (pw k) ∧ i = .int .i64 k) (fun _ i => n - (intOf i).toNat)
  case atStart => exact ⟨0, Nat.zero_le _, rfl, rfl⟩
  case round =>
    obtain ⟨k, hk, rfl, rfl⟩ := hrel
    have hp := pw_in k
    have HS : Hid (pw (k + 1) = pw k * 257 % 65521) := pw_succ k
    by_cases hlt : k < n
    · obtain ⟨d, hdd⟩ : ∃ d, d = pw k := ⟨_, rfl⟩
      rw [← hdd] at hp HS ⊢
      clear hdd
      obtain ⟨hp0, hp1⟩ := hp
      go_wp2
      go_round
      case rel => exact ⟨k + 1, by omega, by rw [HS.out], by go_num⟩
      case measure => simp [intOf]; omega
    · obtain rfl : k = n := by omega
      go_wp2
      go_ret
      exact ⟨rfl, rfl⟩
theorem implPower_any (n : Int) (w : World) (h0 : -9223372036854775808 ≤ n) (h1 : n ≤ 9223372036854775807) :
    Calls Try.prog 122 #[.int .i64 n] w fun e w' => e = .returned (.int .i64 (powerF n)) ∧ w' = w := by
  by_cases hn : 0 ≤ n ∧ n ≤ 16
  · obtain ⟨m, rfl⟩ := Int.eq_ofNat_of_zero_le hn.1
    have e : powerF (m : Int) = pw m := by unfold powerF; rw [if_pos hn, Int.toNat_natCast]
    rw [e]
    exact implPower_in m w (by omega)
  · have e : powerF n = -1 := by unfold powerF; rw [if_neg hn]
    rw [e]
    clear e
    by_cases ha : 0 ≤ n
    · have hb : 16 < n := by omega
      go_enter Try.func122, Try.ntmps122
      go_wp2
      go_ret
      exact ⟨rfl, rfl⟩
    · go_enter Try.func122, Try.ntmps122
      go_wp2
      go_ret
      exact ⟨rfl, rfl⟩

theorem l1In_any (x lo hi : Int) (w : World) :
    Calls Try.prog 57 #[.int .i64 x, .int .i64 lo, .int .i64 hi] w fun e w' => e = .returned (.bool (decide (lo ≤ x ∧ x ≤ hi))) ∧ w' = w := by
  by_cases ha : lo ≤ x
  · by_cases hb : x ≤ hi
    · rw [decide_eq_true (⟨ha, hb⟩ : lo ≤ x ∧ x ≤ hi)]
      go_enter Try.func57, Try.ntmps57
      go_wp2
      go_ret
      exact ⟨rfl, rfl⟩
    · rw [decide_eq_false (fun h => hb h.2 : ¬ (lo ≤ x ∧ x ≤ hi))]
      go_enter Try.func57, Try.ntmps57
      go_wp2
      go_ret
      exact ⟨rfl, rfl⟩
  · rw [decide_eq_false (fun h => ha h.1 : ¬ (lo ≤ x ∧ x ≤ hi))]
    go_enter Try.func57, Try.ntmps57
    go_wp2
    go_ret
    exact ⟨rfl, rfl⟩



theorem isByte_any (x : Int) (w : World) :
    Calls Try.prog 121 #[.int .i64 x] w fun e w' => e = .returned (.bool (decide (0 ≤ x ∧ x ≤ 255))) ∧ w' = w := by
  by_cases ha : 0 ≤ x
  · by_cases hb : x ≤ 255
    · rw [decide_eq_true (⟨ha, hb⟩ : 0 ≤ x ∧ x ≤ 255)]
      go_enter Try.func121, Try.ntmps121
      go_wp2
      go_ret
      exact ⟨rfl, rfl⟩
    · rw [decide_eq_false (fun h => hb h.2 : ¬ (0 ≤ x ∧ x ≤ 255))]
      go_enter Try.func121, Try.ntmps121
      go_wp2
      go_ret
      exact ⟨rfl, rfl⟩
  · rw [decide_eq_false (fun h => ha h.1 : ¬ (0 ≤ x ∧ x ≤ 255))]
    go_enter Try.func121, Try.ntmps121
    go_wp2
    go_ret
    exact ⟨rfl, rfl⟩

/-- the remainder of what is below 0 -/
theorem tmod_neg (x : Int) (h : x < 0) : -65521 < x.tmod 65521 ∧ x.tmod 65521 ≤ 0 ∧ Hid (x % 65521 = if x.tmod 65521 < 0 then x.tmod 65521 + 65521 else x.tmod 65521) := by
  obtain ⟨y, rfl⟩ : ∃ y : Int, x = -y := ⟨-x, by omega⟩
  have e : (-y).tmod 65521 = -(y % 65521) := by rw [Int.neg_tmod, Int.tmod_eq_emod_of_nonneg (by omega)]
  rw [e]
  refine ⟨by omega, by omega, ?_⟩
  show _ = _
  split <;> omega
/-- what Rolled wants -/
abbrev okR (h o i n : Int) : Prop := (0 ≤ h ∧ h ≤ 65520) ∧ (0 ≤ o ∧ o ≤ 255) ∧ (0 ≤ i ∧ i ≤ 255) ∧ 1 ≤ n ∧ n ≤ 16
/-- what Rolled tells -/
def rolledT (h o i n : Int) : Int := if okR h o i n then rolledF h o i n.toNat else -1

set_option maxHeartbeats 1000000 in
theorem implRolled_in (h o i : Int) (n : Nat) (w : World) (hk : okR h o i n) :
    Calls Try.prog 112 #[.int .i64 h, .int .i64 o, .int .i64 i, .int .i64 (n : Int)] w fun e w' => e = .returned (.int .i64 (rolledF h o i n)) ∧ w' = w := by
  obtain ⟨⟨h0, h1⟩, ⟨o0, o1⟩, ⟨i0, i1⟩, n0, n1⟩ := hk
  have ho : decide (0 ≤ o ∧ o ≤ 255) = true := decide_eq_true ⟨o0, o1⟩
  have hi : decide (0 ≤ i ∧ i ≤ 255) = true := decide_eq_true ⟨i0, i1⟩
  have hp := pw_in n
  have hpp := prod_in o (pw n) o0 o1 hp.1 hp.2
  have HF : Hid (rolledF h o i n = (257 * h - (o + 1) * pw n + i + 1) % 65521) := rfl
  obtain ⟨p, hpe⟩ : ∃ p, p = pw n := ⟨_, rfl⟩
  rw [← hpe] at hp hpp HF
  have HP : Hid (pw n = p) := hpe.symm
  obtain ⟨y, hy⟩ : ∃ y, y = (o + 1) * p := ⟨_, rfl⟩
  rw [← hy] at hpp HF
  have HY : Hid ((o + 1) * p = y) := hy.symm
  clear hpe hy
  obtain ⟨hp0, hp1⟩ := hp
  obtain ⟨hy0, hy1⟩ := hpp
  have hyl : 0 ≤ (o + 1) * p := by rw [HY.out]; omega
  have hyh : (o + 1) * p ≤ 16773120 := by rw [HY.out]; omega
  go_enter Try.func112, Try.ntmps112
  go_wp2_with fail
  refine (isByte_any _ _).mono ?_
  rintro e w1 ⟨rfl, rfl⟩
  rw [ho]
  go_wp2_with fail
  refine (isByte_any _ _).mono ?_
  rintro e w1 ⟨rfl, rfl⟩
  rw [hi]
  go_wp2_with fail
  refine (implPower_in n _ (by omega)).mono ?_
  rintro e w1 ⟨rfl, rfl⟩
  rw [HP.out]
  go_wp2
  go_ret
  exact ⟨ret_int (by rw [HF.out, ← HY.out]; omega), rfl⟩
theorem implRolled_any (h o i n : Int) (w : World) (hn0 : -9223372036854775808 ≤ n) (hn1 : n ≤ 9223372036854775807) :
    Calls Try.prog 112 #[.int .i64 h, .int .i64 o, .int .i64 i, .int .i64 n] w fun e w' => e = .returned (.int .i64 (rolledT h o i n)) ∧ w' = w := by
  by_cases hk : okR h o i n
  · obtain ⟨m, rfl⟩ := Int.eq_ofNat_of_zero_le (show 0 ≤ n by unfold okR at hk; omega)
    have e : rolledT h o i (m : Int) = rolledF h o i m := by unfold rolledT; rw [if_pos hk, Int.toNat_natCast]
    rw [e]
    exact implRolled_in h o i m w hk
  · have e : rolledT h o i n = -1 := by unfold rolledT; rw [if_neg hk]
    rw [e]
    clear e
    unfold okR at hk
    by_cases ha : h < 0
    · clear hk
      go_enter Try.func112, Try.ntmps112
      go_wp2
      go_ret
      exact ⟨rfl, rfl⟩
    by_cases hb : 65521 ≤ h
    · clear hk
      go_enter Try.func112, Try.ntmps112
      go_wp2
      go_ret
      exact ⟨rfl, rfl⟩
    by_cases ho : 0 ≤ o ∧ o ≤ 255
    focus
      have hod : decide (0 ≤ o ∧ o ≤ 255) = true := decide_eq_true ho
      by_cases hi : 0 ≤ i ∧ i ≤ 255
      focus
        have hid : decide (0 ≤ i ∧ i ≤ 255) = true := decide_eq_true hi
        have hnn : ¬ (1 ≤ n ∧ n ≤ 16) := fun h => hk ⟨by omega, ho, hi, h⟩
        clear hk ho hi
        by_cases hn : n < 1
        focus clear hnn
        rotate_left
        focus
          have hn2 : 16 < n := by omega
          clear hnn
        all_goals
          go_enter Try.func112, Try.ntmps112
          go_wp2_with fail
          refine (isByte_any _ _).mono ?_
          rintro e w1 ⟨rfl, rfl⟩
          rw [hod]
          go_wp2_with fail
          refine (isByte_any _ _).mono ?_
          rintro e w1 ⟨rfl, rfl⟩
          rw [hid]
          go_wp2
          go_ret
          exact ⟨rfl, rfl⟩
      have hid : decide (0 ≤ i ∧ i ≤ 255) = false := decide_eq_false hi
      clear hk ho hi
      go_enter Try.func112, Try.ntmps112
      go_wp2_with fail
      refine (isByte_any _ _).mono ?_
      rintro e w1 ⟨rfl, rfl⟩
      rw [hod]
      go_wp2_with fail
      refine (isByte_any _ _).mono ?_
      rintro e w1 ⟨rfl, rfl⟩
      rw [hid]
      go_wp2
      go_ret
      exact ⟨rfl, rfl⟩
    have hod : decide (0 ≤ o ∧ o ≤ 255) = false := decide_eq_false ho
    clear hk ho
    go_enter Try.func112, Try.ntmps112
    go_wp2_with fail
    refine (isByte_any _ _).mono ?_
    rintro e w1 ⟨rfl, rfl⟩
    rw [hod]
    go_wp2
    go_ret
    exact ⟨rfl, rfl⟩


end Go.Proofs.Ytgcpdifggjkdhab
