/- MARKS OF A ROW OF BLOBS FROM 1 ON; how long a store can be. -/
import Derived.Test.YtncmeocjiinmfalBlobM
import Derived.Test.YtncmeocjiinmfalBlobMath
namespace Go.Proofs.Ytncmeocjiinmfal
open Go.RowKit
theorem markBlobS_one (base : Nat) (v : Value) (xs : List Bl) (w : World) (hown : w.ownsRow base 51 2 v xs.length (blC xs)) (hl : xs.length ≤ 1048576) :
    Calls Try.prog 14 #[v, .int .i64 1] w fun e w' => e = .returned (.int .i64 ((1 + 2 * xs.length : Nat) : Int)) ∧ w'.ownsRow base 51 2 v xs.length (blC (marksBl 1 xs.length)) ∧ w.grownBy w' v.ownBlock :=
  markBlobS_any base v 1 xs w hown hl (by omega) (by omega)
theorem heldBlobS_one (v : Value) (n : Nat) (w : World) (hrd : RdB w v (marksBl 1 n)) (hl : n ≤ 1048576) :
    Calls Try.prog 15 #[v, .int .i64 1] w fun e w' => e = .returned (.int .i64 ((1 + 2 * n : Nat) : Int)) ∧ Below w.heap.size w w' :=
  heldBlobS_any v 1 n w hrd hl (by omega) (by omega)
theorem rdB_own_marks {w : World} {base n : Nat} {e : TypeId} {v : Value} (h : w.ownsRow base e 2 v n (blC (marksBl 1 n))) : RdB w v (marksBl 1 n) := rdB_owns (l := marksBl 1 n) (by rw [marksBl_len]; exact h)
theorem putT_len2 (l : List Bl) (s : ByteArray) : (putT l s).1.length ≤ 301 := by
  unfold putT
  by_cases h1 : storeB l = true
  · have hl := (storeB_iff.1 h1).1
    rw [if_pos h1]
    by_cases h2 : 2000 < s.size
    · rw [if_pos h2]; show l.length ≤ 301; omega
    · rw [if_neg h2]
      cases hf : findB l (digest s) with
      | some p =>
        simp only
        by_cases h3 : p.2 = s
        · rw [if_pos h3]; show l.length ≤ 301; omega
        · rw [if_neg h3]; show l.length ≤ 301; omega
      | none =>
        simp only
        by_cases h3 : l.length = 300
        · rw [if_pos h3]; show l.length ≤ 301; omega
        · rw [if_neg h3]
          have := insB_len (p := (digest s, s)) (findB_none.1 hf)
          show (insB l (digest s, s)).length ≤ 301
          omega
  · rw [if_neg h1]
    exact Nat.zero_le _
theorem dropT_len (l : List Bl) (ds : List Int) : (dropT l ds).length ≤ 300 := by
  unfold dropT
  by_cases h1 : storeB l = true
  · rw [if_pos h1]
    exact Nat.le_trans (List.length_filter_le _ _) (storeB_iff.1 h1).1
  · rw [if_neg h1]
    exact Nat.zero_le _
theorem missF_len (l : List Bl) : ∀ (ds acc : List Int), (missF l ds acc).length ≤ acc.length + ds.length
  | [], acc => Nat.le_refl _
  | d :: r, acc => by
    rw [missF]
    split
    · have := missF_len l r (acc ++ [d])
      rw [List.length_append, List.length_singleton] at this
      rw [List.length_cons]
      omega
    · have := missF_len l r acc
      rw [List.length_cons]
      omega
theorem missT_len (l : List Bl) (ds : List Int) : (missT l ds).length ≤ ds.length := by
  unfold missT
  split
  · have := missF_len l ds []
    simpa using this
  · exact Nat.zero_le _
end Go.Proofs.Ytncmeocjiinmfal
