/- A NUMBER IN DECIMAL DIGITS. CONTRACT: the specification's l1Int at numbers from 0 on. -/
import Derived.Test.YtidmaaglfckcbafDoorDig
import Derived.Lib.Hide
import Derived.Deep.LoopGhost
namespace Go.Proofs.YtidmaaglfckcbafDoor
open Go.RowKit
set_option linter.unusedVariables false
def dig1 (k : Nat) : ByteArray := asB [48 + (k : Int) % 10]
theorem dig1_size (k : Nat) : (dig1 k).size = 1 := by unfold dig1; rw [asB_size]; rfl
/-- the digits of k ahead of o (f: at least as many as there are) -/
def decF : Nat → Nat → ByteArray → ByteArray
  | 0, _, o => o
  | f + 1, k, o => if k = 0 then o else decF f (k / 10) (dig1 k ++ o)
theorem decF_zero (f : Nat) (o : ByteArray) : decF f 0 o = o := by cases f <;> simp [decF]
theorem decF_step {f k : Nat} {o : ByteArray} (h : k ≠ 0) : decF (f + 1) k o = decF f (k / 10) (dig1 k ++ o) := by rw [decF, if_neg h]
def decN (k : Nat) : ByteArray := decF 19 (k / 10) (dig1 k)
theorem decF_size : ∀ (f k : Nat) (o : ByteArray), (decF f k o).size ≤ o.size + f ∧ o.size ≤ (decF f k o).size
  | 0, k, o => by simp [decF]
  | f + 1, k, o => by
    by_cases h : k = 0
    · subst h
      rw [decF_zero]
      omega
    · rw [decF_step h]
      have h9 := decF_size f (k / 10) (dig1 k ++ o)
      rw [ByteArray.size_append, dig1_size] at h9
      omega
theorem decN_size (k : Nat) : (decN k).size ≤ 20 ∧ 1 ≤ (decN k).size := by
  have h := decF_size 19 (k / 10) (dig1 k)
  rw [dig1_size] at h
  unfold decN
  omega
theorem dec_ten {k f : Nat} (h : k < 10 ^ (f + 1)) : k / 10 < 10 ^ f := Nat.div_lt_of_lt_mul (by rw [Nat.pow_succ, Nat.mul_comm] at h; exact h)
theorem dec_pos {k f : Nat} (h : k < 10 ^ f) (hk : k ≠ 0) : ∃ g, f = g + 1 := by
  cases f with
  | zero => simp at h; exact absurd h hk
  | succ g => exact ⟨g, rfl⟩
theorem str_dig (W : World) (k : Nat) : (convert 22 9 (.slice (some ⟨W.heap.size, 0, none⟩) 1 1)).run Tryd.prog (W.alloc (.cells #[.int .u8 (48 + (k : Int) % 10)] 5)) = .ok (.string (dig1 k)) (W.alloc (.cells #[.int .u8 (48 + (k : Int) % 10)] 5)) :=
  str_of (W.alloc (.cells #[.int .u8 (48 + (k : Int) % 10)] 5)) W.heap.size 0 1 1 [48 + (k : Int) % 10] (fun x hx => by rw [List.mem_singleton.1 hx]; omega) (Nat.le_refl _) (fun j hj => by
    have hj' : j = 0 := by simpa using hj
    subst hj'
    simp)
theorem str_full {o : ByteArray} (h : ¬ o = ⟨#[]⟩) : (o.toList == []) = false := by
  have hne : ¬ o.toList = [] := fun e => h (same_of (a := o) (b := ⟨#[]⟩) (by rw [e]; simp))
  simp [hne]
def lenV : Value → Nat
  | .string b => b.size
  | _ => 0
set_option maxHeartbeats 1000000 in
set_option maxRecDepth 100000 in
theorem l1Int_any (k0 : Nat) (w : World) (h1 : k0 ≤ 9223372036854775807) :
    Calls Tryd.prog 26 #[.int .i64 (k0 : Int)] w fun e w' => e = .returned (.string (decN k0)) ∧ Below w.heap.size w w' := by
  have h10 : k0 / 10 < 10 ^ 19 := by
    have e : (10 : Nat) ^ 19 = 10000000000000000000 := by decide
    rw [e]; omega
  have HS0 : Hid (decN k0 = decF 19 (k0 / 10) (dig1 k0 ++ ⟨#[]⟩)) := by
    show _ = _
    unfold decN
    congr 1
  generalize decN k0 = R at HS0 ⊢
  go_enter Tryd.func26, Tryd.ntmps26
  go_wp2
  go_loopw [0, 3] (fun q s wr => ∃ (k f : Nat) (o : ByteArray), q = .int .i64 k ∧ s = .string o ∧ k ≤ 9223372036854775807 ∧ Hid (o.size + f ≤ 20) ∧ Hid ((o = ⟨#[]⟩ ∧ k / 10 < 10 ^ f ∧ o.size + f ≤ 19 ∧ R = decF f (k / 10) (dig1 k ++ o)) ∨ (0 < o.size ∧ k < 10 ^ f ∧ R = decF f k o)) ∧ Below w.heap.size w wr) (fun q s _ => 2 * (intOf q).toNat + (1 - lenV s))
  case atStart => exact ⟨k0, 19, ⟨#[]⟩, rfl, rfl, h1, by show 0 + 19 ≤ 20; omega, Or.inl ⟨rfl, h10, by show 0 + 19 ≤ 19; omega, HS0.out⟩, Below.refl _ _⟩
  case round =>
    obtain ⟨k, f, o, rfl, rfl, hk9, hsz, hph, hb⟩ := hrel
    have hs := hb.size
    by_cases hgo : o = ⟨#[]⟩ ∨ k ≠ 0
    · -- one digit more
      have HN : Hid (∃ g, (dig1 k ++ o).size + g ≤ 20 ∧ k / 10 < 10 ^ g ∧ R = decF g (k / 10) (dig1 k ++ o)) := by
        rcases hph.out with ⟨_, h2, h3, h4⟩ | ⟨h1, h2, h3⟩
        · exact ⟨f, by rw [ByteArray.size_append, dig1_size]; omega, h2, h4⟩
        · have hk : k ≠ 0 := by
            rcases hgo with h | h
            · rw [h] at h1; exact absurd h1 (by decide)
            · exact h
          obtain ⟨g, rfl⟩ := dec_pos h2 hk
          have h9 := hsz.out
          exact ⟨g, by rw [ByteArray.size_append, dig1_size]; omega, dec_ten h2, by rw [h3, decF_step hk]⟩
      obtain ⟨g, hg1, hg2, hg3⟩ := HN.out
      have HG1 : Hid ((dig1 k ++ o).size + g ≤ 20) := hg1
      have hpos : 0 < (dig1 k ++ o).size := by rw [ByteArray.size_append, dig1_size]; omega
      have HP : Hid (0 < (dig1 k ++ o).size ∧ k / 10 < 10 ^ g ∧ R = decF g (k / 10) (dig1 k ++ o)) := ⟨hpos, hg2, hg3⟩
      have hst := str_dig wr k
      have ho9 : o.size ≤ 20 := by have := hsz.out; omega
      have hd1 := dig1_size k
      have hadd : ∀ W : World, (Op.stringOp .add (dig1 k) o).run Tryd.prog W = .ok (.string (dig1 k ++ o)) W := fun W => run_string_add_sum W _ _ (by omega)
      have HL : Hid (o.size = 0 ∨ k ≠ 0) := by
        rcases hgo with h | h
        · exact Or.inl (by rw [h]; rfl)
        · exact Or.inr h
      have HPZ : Hid (1 ≤ (dig1 k ++ o).size) := hpos
      have hmn : decide ((k : Int) % 10 < 0) = false := decide_eq_false (by omega)
      generalize hto : dig1 k ++ o = t at HG1 HP hadd HPZ
      generalize hdk : dig1 k = dk at hst hadd hd1
      clear HN hg1 hg2 hg3 hpos hph hto hdk HS0
      by_cases hoe : o = ⟨#[]⟩
      · subst hoe
        go_wp2
        go_roundw
        case rel => exact ⟨k / 10, g, t, by go_num, rfl, by omega, HG1, Or.inr HP.out, hb.alloc hs _⟩
        case measure =>
          have h9 := HPZ.out
          have e0 : (⟨#[]⟩ : ByteArray).size = 0 := rfl
          simp [intOf, lenV]
          omega
      · have hk0 : k ≠ 0 := by
          rcases hgo with h | h
          · exact absurd h hoe
          · exact h
        have hoL : (o.toList == []) = false := str_full hoe
        have hkI : ((k : Int) == 0) = false := by simp; omega
        go_wp2
        go_roundw
        case rel => exact ⟨k / 10, g, t, by go_num, rfl, by omega, HG1, Or.inr HP.out, hb.alloc hs _⟩
        case measure =>
          have h9 := HPZ.out
          have e0 : (⟨#[]⟩ : ByteArray).size = 0 := rfl
          simp [intOf, lenV]
          omega
    · have hoe : ¬ o = ⟨#[]⟩ := fun h => hgo (Or.inl h)
      have hk0 : k = 0 := by
        by_cases h : k = 0
        · exact h
        · exact absurd (Or.inr h) hgo
      subst hk0
      have hoL : (o.toList == []) = false := str_full hoe
      have HR : Hid (R = o) := by
        rcases hph.out with ⟨h1, _⟩ | ⟨_, _, h3⟩
        · exact absurd h1 hoe
        · rw [decF_zero] at h3; exact h3
      clear hph hgo hoe hsz
      go_wp2
      go_ret
      exact ⟨by rw [HR.out]; rfl, hb⟩
end Go.Proofs.YtidmaaglfckcbafDoor
