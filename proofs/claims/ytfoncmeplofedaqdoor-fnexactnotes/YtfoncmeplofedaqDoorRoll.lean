/- CONTRACTS: a rolling number: impl's (with, folded, Roll, Power, isByte, Rolled), the specification's (Roll, l3Power, Power, Rolled). The mathematics ahead of them speaks of no program. -/
import Derived.Test.YtfoncmeplofedaqDoorDig
namespace Go.Proofs.YtfoncmeplofedaqDoor
open Go.RowKit

/-- one byte more -/
def rStep (h b : Int) : Int := (h * 257 + b + 1) % 65521
def rollL (bs : List Int) : Int := bs.foldl rStep 0
/-- the number of a text -/
def roll (s : ByteArray) : Int := rollL (byts s)
/-- what n bytes more multiply by -/
def pw : Nat → Int
  | 0 => 1
  | n + 1 => pw n * 257 % 65521
/-- rolled on -/
def rolledF (h out inn : Int) (n : Nat) : Int := (257 * h - (out + 1) * pw n + inn + 1) % 65521

theorem rStep_in (h b : Int) : 0 ≤ rStep h b ∧ rStep h b ≤ 65520 := by
  unfold rStep; omega
theorem rollL_in (bs : List Int) : 0 ≤ rollL bs ∧ rollL bs ≤ 65520 := by
  unfold rollL
  suffices H : ∀ h, 0 ≤ h ∧ h ≤ 65520 → 0 ≤ bs.foldl rStep h ∧ bs.foldl rStep h ≤ 65520 from H 0 (by omega)
  induction bs with
  | nil => exact fun h hh => hh
  | cons b r ih => exact fun h _ => ih _ (rStep_in h b)
theorem rollL_snoc (bs : List Int) (k : Nat) (hk : k < bs.length) : rollL (bs.take (k + 1)) = rStep (rollL (bs.take k)) (bs.getD k 0) := by
  rw [take_snoc bs 0 k hk]
  simp [rollL]
theorem roll_in (s : ByteArray) : 0 ≤ roll s ∧ roll s ≤ 65520 := rollL_in _
theorem pw_in (n : Nat) : 0 ≤ pw n ∧ pw n ≤ 65520 := by
  induction n with
  | zero => simp [pw]
  | succ n ih => unfold pw; omega
theorem pw_succ (n : Nat) : pw (n + 1) = pw n * 257 % 65521 := rfl
theorem prod_in (o p : Int) (h0 : 0 ≤ o) (h1 : o ≤ 255) (p0 : 0 ≤ p) (p1 : p ≤ 65520) : 0 ≤ (o + 1) * p ∧ (o + 1) * p ≤ 16773120 := by
  have a := Int.mul_nonneg (show 0 ≤ o + 1 by omega) p0
  have b := Int.mul_le_mul (show o + 1 ≤ 256 by omega) p1 p0 (by omega)
  omega
theorem rolledF_in (h out inn : Int) (n : Nat) : 0 ≤ rolledF h out inn n ∧ rolledF h out inn n ≤ 65520 := by
  unfold rolledF; omega





/-- what Power tells -/
def powerF (n : Int) : Int := if 0 ≤ n ∧ n ≤ 16 then pw n.toNat else -1


theorem l1In_any (x lo hi : Int) (w : World) :
    Calls Tryd.prog 40 #[.int .i64 x, .int .i64 lo, .int .i64 hi] w fun e w' => e = .returned (.bool (decide (lo ≤ x ∧ x ≤ hi))) ∧ w' = w := by
  by_cases ha : lo ≤ x
  · by_cases hb : x ≤ hi
    · rw [decide_eq_true (⟨ha, hb⟩ : lo ≤ x ∧ x ≤ hi)]
      go_enter Tryd.func40, Tryd.ntmps40
      go_wp2
      go_ret
      exact ⟨rfl, rfl⟩
    · rw [decide_eq_false (fun h => hb h.2 : ¬ (lo ≤ x ∧ x ≤ hi))]
      go_enter Tryd.func40, Tryd.ntmps40
      go_wp2
      go_ret
      exact ⟨rfl, rfl⟩
  · rw [decide_eq_false (fun h => ha h.1 : ¬ (lo ≤ x ∧ x ≤ hi))]
    go_enter Tryd.func40, Tryd.ntmps40
    go_wp2
    go_ret
    exact ⟨rfl, rfl⟩




/-- the remainder of what is below 0 -/
theorem tmod_neg (x : Int) (h : x < 0) : -65521 < x.tmod 65521 ∧ x.tmod 65521 ≤ 0 ∧ Hid (x % 65521 = if x.tmod 65521 < 0 then x.tmod 65521 + 65521 else x.tmod 65521) := by
  obtain ⟨y, rfl⟩ : ∃ y : Int, x = -y := ⟨-x, by omega⟩
  have e : (-y).tmod 65521 = -(y % 65521) := by rw [Int.neg_tmod, Int.tmod_eq_emod_of_nonneg (by omega)]
  rw [e]
  refine ⟨by omega, by omega, ?_⟩
  show _ = _
  split <;> omega
/-- what Rolled wants -/
abbrev okR (h o i n : Int) : Prop := (0 ≤ h ∧ h ≤ 65520) ∧ (0 ≤ o ∧ o ≤ 255) ∧ (0 ≤ i ∧ i ≤ 255) ∧ 1 ≤ n ∧ n ≤ 16
/-- what Rolled tells -/
def rolledT (h o i n : Int) : Int := if okR h o i n then rolledF h o i n.toNat else -1



end Go.Proofs.YtfoncmeplofedaqDoor
