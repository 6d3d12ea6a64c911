/- CONTRACTS: a digest: impl's (with, told, folded, Digest) and spec.Digest; Clash of both. The mathematics ahead of them speaks of no program. -/
import Derived.Test.YtfoncmeplofedaeBasis
namespace Go.Proofs.Ytfoncmeplofedae
open Go.RowKit

/-- one byte more -/
def dStep (h b : Int) : Int := (h * 1000003 + b + 1) % 2147483647
def digL (bs : List Int) : Int := bs.foldl dStep 1
def dTold (h : Int) : Int := if h = 0 then 1 else h
/-- what a text's digest is -/
def digest (s : ByteArray) : Int := dTold (digL (byts s))

theorem dStep_in (h b : Int) : 0 ≤ dStep h b ∧ dStep h b ≤ 2147483646 := by
  unfold dStep; omega
theorem digL_in (bs : List Int) : 0 ≤ digL bs ∧ digL bs ≤ 2147483646 := by
  unfold digL
  suffices H : ∀ h, 0 ≤ h ∧ h ≤ 2147483646 → 0 ≤ bs.foldl dStep h ∧ bs.foldl dStep h ≤ 2147483646 from H 1 (by omega)
  induction bs with
  | nil => exact fun h hh => hh
  | cons b r ih => exact fun h _ => ih _ (dStep_in h b)
theorem digL_snoc (bs : List Int) (k : Nat) (hk : k < bs.length) : digL (bs.take (k + 1)) = dStep (digL (bs.take k)) (bs.getD k 0) := by
  rw [take_snoc bs 0 k hk]
  simp [digL]
theorem digest_in (s : ByteArray) : 1 ≤ digest s ∧ digest s ≤ 2147483646 := by
  have := digL_in (byts s)
  unfold digest dTold
  split <;> omega

theorem with_any (h b : Int) (w : World) (h0 : 0 ≤ h) (h1 : h ≤ 2147483646) (b0 : 0 ≤ b) (b1 : b ≤ 255) :
    Calls Try.prog 66 #[.int .i64 h, .int .u8 b] w fun e w' => e = .returned (.int .i64 (dStep h b)) ∧ w' = w := by
  go_enter Try.func66, Try.ntmps66
  go_wp2
  go_ret
  exact ⟨ret_int (by unfold dStep; rfl), rfl⟩

theorem told_any (h : Int) (w : World) :
    Calls Try.prog 67 #[.int .i64 h] w fun e w' => e = .returned (.int .i64 (dTold h)) ∧ w' = w := by
  by_cases hh : h = 0
  · subst hh
    go_enter Try.func67, Try.ntmps67
    go_wp2
    go_ret
    exact ⟨rfl, rfl⟩
  · have e : dTold h = h := by unfold dTold; rw [if_neg hh]
    rw [e]
    clear e
    go_enter Try.func67, Try.ntmps67
    go_wp2
    go_ret
    exact ⟨rfl, rfl⟩

/-- a byte of a text -/
theorem str_at (s : ByteArray) (k : Nat) (hk : k < s.size) : ∀ W : World, (Instr.index 9 (.string s) (.int .i64 (k : Int))).run Try.prog W = .ok (.int .u8 ((byts s).getD k 0)) W := fun W => by
  rw [run_index_string W 9 s .i64 k Try.underlying9, dif_pos ⟨by omega, by omega⟩, byts_get s k hk]
  rfl

theorem folded_any (s : ByteArray) (w : World) (hs : s.size ≤ 9223372036854775807) :
    Calls Try.prog 65 #[.string s, .int .i64 1, .func (.func 66) #[] #[]] w fun e w' => e = .returned (.int .i64 (digL (byts s))) ∧ w' = w := by
  have hbl := byts_len s
  have HB : Hid ((byts s).length = s.size) := hbl
  clear hbl
  go_enter Try.func65, Try.ntmps65
  go_wp2
  go_loop [1, 10] (fun q i => ∃ k : Nat, k ≤ s.size ∧ q = .int .i64 (digL ((byts s).take k)) ∧ i = .int .i64 k) (fun _ i => s.size - (intOf i).toNat)
  case atStart => exact ⟨0, Nat.zero_le _, rfl, rfl⟩
  case round =>
    obtain ⟨k, hk, rfl, rfl⟩ := hrel
    by_cases hlt : k < s.size
    · have hx := str_at s k hlt
      have hr := byts_range s k
      have hd := digL_in ((byts s).take k)
      have hst : Hid (digL ((byts s).take (k + 1)) = dStep (digL ((byts s).take k)) ((byts s).getD k 0)) := digL_snoc _ k (by rw [HB.out]; exact hlt)
      obtain ⟨x, hxx⟩ : ∃ x, x = (byts s).getD k 0 := ⟨_, rfl⟩
      rw [← hxx] at hx hr hst
      obtain ⟨d, hdd⟩ : ∃ d, d = digL ((byts s).take k) := ⟨_, rfl⟩
      rw [← hdd] at hd hst ⊢
      clear hxx hdd
      obtain ⟨hr0, hr1⟩ := hr
      obtain ⟨hd0, hd1⟩ := hd
      go_wp2_with fail
      refine (with_any d x _ hd0 hd1 hr0 hr1).mono ?_
      rintro e w' ⟨rfl, rfl⟩
      go_wp2
      go_round
      case rel => exact ⟨k + 1, by omega, by rw [hst.out], by go_num⟩
      case measure => simp [intOf]; omega
    · have e : digL ((byts s).take k) = digL (byts s) := by rw [List.take_of_length_le (by rw [HB.out]; omega)]
      rw [e]
      clear e
      go_wp2
      go_ret
      exact ⟨rfl, rfl⟩

theorem implDigest_any (s : ByteArray) (w : World) (hs : s.size ≤ 9223372036854775807) :
    Calls Try.prog 47 #[.string s] w fun e w' => e = .returned (.int .i64 (digest s)) ∧ w' = w := by
  have hd : Hid (digest s = dTold (digL (byts s))) := rfl
  go_enter Try.func47, Try.ntmps47
  go_wp2_with fail
  refine (folded_any s _ hs).mono ?_
  rintro e w1 ⟨rfl, rfl⟩
  go_wp2_with fail
  refine (told_any _ _).mono ?_
  rintro e w2 ⟨rfl, rfl⟩
  rw [← hd.out]
  go_wp2
  go_ret
  exact ⟨rfl, rfl⟩

theorem max_any (h : Int) (w : World) (h0 : 0 ≤ h) :
    Calls Try.prog 43 #[.int .i64 1, .int .i64 h] w fun e w' => e = .returned (.int .i64 (dTold h)) ∧ w' = w := by
  by_cases hh : h = 0
  · subst hh
    go_enter Try.func43, Try.ntmps43
    go_wp2
    go_ret
    exact ⟨rfl, rfl⟩
  · have e : dTold h = h := by unfold dTold; rw [if_neg hh]
    rw [e]
    clear e
    go_enter Try.func43, Try.ntmps43
    go_wp2
    go_ret
    exact ⟨rfl, rfl⟩

theorem specDigest_any (s : ByteArray) (w : World) (hs : s.size ≤ 9223372036854775807) :
    Calls Try.prog 22 #[.string s] w fun e w' => e = .returned (.int .i64 (digest s)) ∧ w' = w := by
  have HB : Hid ((byts s).length = s.size) := byts_len s
  have hD : Hid (digest s = dTold (digL (byts s))) := rfl
  go_enter Try.func22, Try.ntmps22
  go_wp2
  go_loop [3, 4] (fun q i => ∃ k : Nat, k ≤ s.size ∧ q = .int .i64 (digL ((byts s).take k)) ∧ i = .int .i64 k) (fun _ i => s.size - (intOf i).toNat)
  case atStart => exact ⟨0, Nat.zero_le _, rfl, rfl⟩
  case round =>
    obtain ⟨k, hk, rfl, rfl⟩ := hrel
    by_cases hlt : k < s.size
    · have hx := str_at s k hlt
      have hr := byts_range s k
      have hd := digL_in ((byts s).take k)
      have hst : Hid (digL ((byts s).take (k + 1)) = dStep (digL ((byts s).take k)) ((byts s).getD k 0)) := digL_snoc _ k (by rw [HB.out]; exact hlt)
      obtain ⟨x, hxx⟩ : ∃ x, x = (byts s).getD k 0 := ⟨_, rfl⟩
      rw [← hxx] at hx hr hst
      obtain ⟨d, hdd⟩ : ∃ d, d = digL ((byts s).take k) := ⟨_, rfl⟩
      rw [← hdd] at hd hst ⊢
      clear hxx hdd
      obtain ⟨hr0, hr1⟩ := hr
      obtain ⟨hd0, hd1⟩ := hd
      go_wp2
      go_round
      case rel => exact ⟨k + 1, by omega, by rw [hst.out]; rfl, by go_num⟩
      case measure => simp [intOf]; omega
    · have e : digL ((byts s).take k) = digL (byts s) := by rw [List.take_of_length_le (by rw [HB.out]; omega)]
      rw [e]
      clear e
      have hd0 := (digL_in (byts s)).1
      obtain ⟨d, hdd⟩ : ∃ d, d = digL (byts s) := ⟨_, rfl⟩
      rw [← hdd] at hd0 hD ⊢
      clear hdd
      go_wp2_with fail
      refine (max_any d _ hd0).mono ?_
      rintro e w2 ⟨rfl, rfl⟩
      rw [← hD.out]
      go_wp2
      go_ret
      exact ⟨rfl, rfl⟩

theorem same_of {a b : ByteArray} (h : a.toList = b.toList) : a = b := by
  rw [ByteArray.toList_eq, ByteArray.toList_eq] at h
  exact ByteArray.ext (Array.toList_inj.1 h)

/-- do two texts clash? -/
def clashB (a b : ByteArray) : Bool := !a.toList == b.toList && digest a == digest b
theorem clashB_iff (a b : ByteArray) : clashB a b = true ↔ a ≠ b ∧ digest a = digest b := by
  unfold clashB
  constructor
  · intro h
    simp at h
    exact ⟨fun e => h.1 (by rw [e]), h.2⟩
  · rintro ⟨h1, h2⟩
    have h3 : ¬ a.toList = b.toList := fun e => h1 (same_of e)
    simp [h2, h3]
theorem clashB_comm (a b : ByteArray) : clashB a b = clashB b a := by
  rw [Bool.eq_iff_iff, clashB_iff, clashB_iff]
  exact ⟨fun h => ⟨fun e => h.1 e.symm, h.2.symm⟩, fun h => ⟨fun e => h.1 e.symm, h.2.symm⟩⟩


theorem specClash_any (a b : ByteArray) (w : World) (ha : a.size ≤ 9223372036854775807) (hb : b.size ≤ 9223372036854775807) :
    Calls Try.prog 46 #[.string a, .string b] w fun e w' => e = .returned (.bool (clashB a b)) ∧ w' = w := by
  by_cases hab : a = b
  · subst hab
    have hc : clashB a a = false := by simp [clashB]
    rw [hc]
    clear hc
    go_enter Try.func46, Try.ntmps46
    go_wp2
    go_ret
    exact ⟨rfl, rfl⟩
  · have hc : clashB a b = (!a.toList == b.toList && digest a == digest b) := rfl
    rw [hc]
    clear hc
    have hne : ¬ a.toList = b.toList := fun h => hab (same_of h)
    go_enter Try.func46, Try.ntmps46
    go_wp2_with fail
    refine (specDigest_any a _ ha).mono ?_
    rintro e w1 ⟨rfl, rfl⟩
    go_wp2_with fail
    refine (specDigest_any b _ hb).mono ?_
    rintro e w2 ⟨rfl, rfl⟩
    go_wp2
    go_ret
    exact ⟨rfl, rfl⟩

end Go.Proofs.Ytfoncmeplofedae
