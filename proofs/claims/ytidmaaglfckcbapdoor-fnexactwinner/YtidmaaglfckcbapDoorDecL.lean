/- THE SHELF's DIGITS of a number are those of decN. It speaks of no function of the program. -/
import Derived.Test.YtidmaaglfckcbapDoorDec
import Derived.Lib.ItoaNum
namespace Go.Proofs.YtidmaaglfckcbapDoor
open Go.RowKit
theorem decDigits_small {k : Nat} (h : k < 10) : Lib.decDigits k = [UInt8.ofNat (48 + k)] := by rw [Lib.decDigits, dif_pos h]
theorem decDigits_big {k : Nat} (h : ¬ k < 10) : Lib.decDigits k = Lib.decDigits (k / 10) ++ [UInt8.ofNat (48 + k % 10)] := by rw [Lib.decDigits, dif_neg h]
theorem dig1_list (k : Nat) : (dig1 k).data.toList = [UInt8.ofNat (48 + k % 10)] := by
  unfold dig1 asB
  simp only [List.map_cons, List.map_nil]
  have e : (48 + (k : Int) % 10).toNat = 48 + k % 10 := by omega
  rw [e]
theorem decF_list : ∀ (f k : Nat) (o : ByteArray), k < 10 ^ f → (decF f k o).data.toList = (if k = 0 then [] else Lib.decDigits k) ++ o.data.toList
  | 0, k, o, h => by
    have h0 : k = 0 := by simpa using h
    subst h0
    rw [if_pos rfl]
    rfl
  | f + 1, k, o, h => by
    by_cases h0 : k = 0
    · subst h0
      rw [if_pos rfl, decF_zero]
      rfl
    · rw [decF_step h0, decF_list f (k / 10) _ (dec_ten h), if_neg h0, ByteArray.data_append, Array.toList_append, dig1_list, ← List.append_assoc]
      congr 1
      by_cases h1 : k < 10
      · rw [if_pos (by omega), decDigits_small h1, List.nil_append, Nat.mod_eq_of_lt h1]
      · rw [if_neg (by omega), decDigits_big h1]
theorem dec_same (k : Nat) (h : k < 100000000000000000000) : (⟨(Lib.decDigits k).toArray⟩ : ByteArray) = decN k := by
  apply ByteArray.ext
  apply Array.toList_inj.1
  unfold decN
  have h10 : k / 10 < 10 ^ 19 := dec_ten (f := 19) (by omega)
  rw [decF_list 19 (k / 10) _ h10, dig1_list]
  by_cases h1 : k < 10
  · rw [if_pos (by omega), decDigits_small h1, List.nil_append, Nat.mod_eq_of_lt h1]
  · rw [if_neg (by omega), decDigits_big h1]
end Go.Proofs.YtidmaaglfckcbapDoor
