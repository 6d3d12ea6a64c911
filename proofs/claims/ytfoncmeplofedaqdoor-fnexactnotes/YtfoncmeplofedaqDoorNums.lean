/- PLAIN MATHEMATICS: the bytes that a number is laid as (seven bits a byte, the lowest first). It speaks of no program. -/
import Derived.WalkKit
namespace Go.Proofs.YtfoncmeplofedaqDoor
open Go.RowKit

/-- seven bits a byte, with fuel -/
def encF : Nat → Nat → List Int
  | 0, m => [(m : Int)]
  | f + 1, m => if m < 128 then [(m : Int)] else ((m % 128 + 128 : Nat) : Int) :: encF f (m / 128)

theorem encF_any (f g : Nat) : ∀ m, m ≤ f → m ≤ g → encF f m = encF g m := by
  induction f generalizing g with
  | zero =>
    intro m hf hg
    cases g with
    | zero => rfl
    | succ g => simp only [encF]; rw [if_pos (by omega)]
  | succ f ih =>
    intro m hf hg
    cases g with
    | zero => simp only [encF]; rw [if_pos (by omega)]
    | succ g =>
      simp only [encF]
      by_cases h : m < 128
      · rw [if_pos h, if_pos h]
      · rw [if_neg h, if_neg h, ih g (m / 128) (by omega) (by omega)]

def enc (m : Nat) : List Int := encF m m

theorem enc_last (m : Nat) (h : m < 128) : enc m = [(m : Int)] := by
  unfold enc
  cases m with
  | zero => rfl
  | succ m => simp only [encF]; rw [if_pos h]

theorem enc_more (m : Nat) (h : 128 ≤ m) : enc m = ((m % 128 + 128 : Nat) : Int) :: enc (m / 128) := by
  unfold enc
  cases m with
  | zero => omega
  | succ m =>
    simp only [encF]
    rw [if_neg (by omega), encF_any m ((m + 1) / 128) _ (by omega) (by omega)]

theorem enc_len (k : Nat) : ∀ m, m < 128 ^ (k + 1) → (enc m).length ≤ k + 1 := by
  induction k with
  | zero => intro m h; rw [enc_last m (by simpa using h)]; simp
  | succ k ih =>
    intro m h
    by_cases h1 : m < 128
    · rw [enc_last m h1]; simp
    · rw [enc_more m (by omega)]
      have := ih (m / 128) (by rw [Nat.pow_succ] at h; omega)
      simp only [List.length_cons]; omega

theorem enc_pos (m : Nat) : 0 < (enc m).length := by
  by_cases h1 : m < 128
  · rw [enc_last m h1]; simp
  · rw [enc_more m (by omega)]; simp

/-- a number of 64 bits takes at most nine bytes -/
theorem enc_len9 (m : Nat) (h : m < 9223372036854775808) : (enc m).length ≤ 9 := by
  have e : 128 ^ (8 + 1) = 9223372036854775808 := by decide
  exact enc_len 8 m (by omega)
theorem enc_len6 (m : Nat) (h : m ≤ 1099511627776) : (enc m).length ≤ 6 := by
  have e : 128 ^ (5 + 1) = 4398046511104 := by decide
  exact enc_len 5 m (by omega)
/-- each is a byte -/
theorem enc_byte (k : Nat) : ∀ m, m ≤ k → ∀ x ∈ enc m, 0 ≤ x ∧ x ≤ 255 := by
  induction k with
  | zero => intro m h x hx; rw [enc_last m (by omega)] at hx; simp at hx; omega
  | succ k ih =>
    intro m h x hx
    by_cases h1 : m < 128
    · rw [enc_last m h1] at hx; simp at hx; omega
    · rw [enc_more m (by omega)] at hx
      rcases List.mem_cons.1 hx with rfl | hx
      · omega
      · exact ih (m / 128) (by omega) x hx

end Go.Proofs.YtfoncmeplofedaqDoor
