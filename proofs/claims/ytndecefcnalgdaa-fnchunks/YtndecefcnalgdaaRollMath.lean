/- ON ROLLING NUMBERS: what is rolled on is the next window's number; that of two texts is made of both. It speaks of no program. -/
import Derived.Test.YtndecefcnalgdaaRolls
namespace Go.Proofs.Ytndecefcnalgdaa
open Go.RowKit

/-- begun at h, a text's number is h times what its length multiplies by, and its own -/
theorem fold_mod (bs : List Int) : ∀ h : Int, ∃ q : Int, bs.foldl rStep h = h * pw bs.length + rollL bs + 65521 * q := by
  induction bs with
  | nil => exact fun h => ⟨0, by simp [pw, rollL]⟩
  | cons b r ih =>
    intro h
    obtain ⟨q1, h1⟩ := ih (rStep h b)
    obtain ⟨q2, h2⟩ := ih (rStep 0 b)
    obtain ⟨u1, e1⟩ : ∃ u : Int, rStep h b = h * 257 + b + 1 - 65521 * u := ⟨(h * 257 + b + 1) / 65521, by unfold rStep; omega⟩
    obtain ⟨u2, e2⟩ : ∃ u : Int, rStep 0 b = b + 1 - 65521 * u := ⟨(0 * 257 + b + 1) / 65521, by unfold rStep; omega⟩
    obtain ⟨u3, e3⟩ : ∃ u : Int, pw (r.length + 1) = pw r.length * 257 - 65521 * u := ⟨(pw r.length * 257) / 65521, by rw [pw_succ]; omega⟩
    have h3 : rollL (b :: r) = r.foldl rStep (rStep 0 b) := rfl
    refine ⟨u2 * pw r.length - u1 * pw r.length + q1 - q2 + h * u3, ?_⟩
    rw [List.foldl_cons, List.length_cons, h3, h2, h1, e1, e2, e3]
    generalize pw r.length = p
    generalize rollL r = R
    grind

/-- the number of two texts, one behind the other -/
theorem rollL_append (a b : List Int) : rollL (a ++ b) = (rollL a * pw b.length + rollL b) % 65521 := by
  obtain ⟨q, h⟩ := fold_mod b (rollL a)
  have e : rollL (a ++ b) = b.foldl rStep (rollL a) := by unfold rollL; rw [List.foldl_append]
  have hin := rollL_in (a ++ b)
  rw [← e] at h
  omega

/-- a window that goes on by a byte -/
theorem rollL_next (x y : Int) (mid : List Int) : rolledF (rollL (x :: mid)) x y (mid.length + 1) = rollL (mid ++ [y]) := by
  obtain ⟨q, h⟩ := fold_mod mid (rStep 0 x)
  have e : rollL (x :: mid) = mid.foldl rStep (rStep 0 x) := rfl
  rw [← e] at h
  have e2 : rollL (mid ++ [y]) = (rollL mid * 257 + y + 1) % 65521 := by simp [rollL, rStep]
  obtain ⟨u1, e1⟩ : ∃ u : Int, rStep 0 x = x + 1 - 65521 * u := ⟨(0 * 257 + x + 1) / 65521, by unfold rStep; omega⟩
  obtain ⟨u3, e3⟩ : ∃ u : Int, pw (mid.length + 1) = pw mid.length * 257 - 65521 * u := ⟨(pw mid.length * 257) / 65521, by rw [pw_succ]; omega⟩
  unfold rolledF
  rw [h, e1, e2, e3]
  generalize pw mid.length = p
  generalize rollL mid = R
  have hk : 257 * ((x + 1 - 65521 * u1) * p + R + 65521 * q) - (x + 1) * (p * 257 - 65521 * u3) + y + 1 = R * 257 + y + 1 + 65521 * (257 * q - 257 * (u1 * p) + (x + 1) * u3) := by grind
  rw [hk]
  omega

/-- the next window of a text -/
theorem wroll_next (s : ByteArray) (m k : Nat) (hm : 1 ≤ m) (hk : k + m < s.size) : rolledF (wroll s m k) ((byts s).getD k 0) ((byts s).getD (k + m) 0) m = wroll s m (k + 1) := by
  obtain ⟨j, rfl⟩ : ∃ j, m = j + 1 := ⟨m - 1, by omega⟩
  have hl := byts_len s
  have e1 : ((byts s).drop k).take (j + 1) = (byts s).getD k 0 :: ((byts s).drop (k + 1)).take j := by
    rw [drop_getD (byts s) k (by omega), List.take_succ_cons]
  have e2 : ((byts s).drop (k + 1)).take (j + 1) = ((byts s).drop (k + 1)).take j ++ [(byts s).getD (k + (j + 1)) 0] := by
    rw [take_snoc _ 0 j (by rw [List.length_drop]; omega)]
    congr 2
    simp only [List.getD, List.getElem?_drop]
    rw [show k + 1 + j = k + (j + 1) by omega]
  have hml : (((byts s).drop (k + 1)).take j).length = j := by rw [List.length_take, List.length_drop]; omega
  have h := rollL_next ((byts s).getD k 0) ((byts s).getD (k + (j + 1)) 0) (((byts s).drop (k + 1)).take j)
  rw [hml, ← e1, ← e2] at h
  exact h

/-- a text's number, made of its beginning's and its rest's -/
theorem roll_parts (t : ByteArray) (k : Nat) (hk : k ≤ t.size) : roll t = (roll (t.extract 0 k) * pw (t.size - k) + roll (t.extract k t.size)) % 65521 := by
  have hl := byts_len t
  have h := rollL_append ((byts t).take k) ((byts t).drop k)
  rw [List.take_append_drop, List.length_drop, hl] at h
  unfold roll
  rw [byts_extract, byts_extract, h, List.drop_zero, Nat.sub_zero, List.take_of_length_le (l := (byts t).drop k) (by rw [List.length_drop]; omega)]

theorem first_window (s : ByteArray) (m : Nat) : roll (s.extract 0 m) = wroll s m 0 := by
  have h := wroll_eq s m 0
  rwa [Nat.zero_add] at h

end Go.Proofs.Ytndecefcnalgdaa
