/- CONTRACTS: a blob's own, what two numbers' order is (cmp.Compare), and how own is reached. -/
import Derived.Test.YtdiammehnakchacGreatBlR
import Derived.Test.YtdiammehnakchacGreatClone
import Derived.Deep.RegionHeld
import Derived.Deep.MidRow
namespace Go.Proofs.YtdiammehnakchacGreat
open Go.RowKit
set_option linter.unusedVariables false
theorem alloc_size (X : World) (o : Obj) : (X.alloc o).heap.size = X.heap.size + 1 := by show (X.heap.push _).size = _; rw [Array.size_push]
def cmpI (x y : Int) : Int := if x < y then -1 else if y < x then 1 else 0
theorem isNaN_any (x : Int) (w : World) : Calls Tryz.prog 85 #[.int .i64 x] w fun e w' => e = .returned (.bool false) ∧ w' = w := by
  go_enter Tryz.func85, Tryz.ntmps85
  go_wp2
  go_ret
  exact ⟨by simp, rfl⟩
theorem compare_any (x y : Int) (w : World) : Calls Tryz.prog 74 #[.int .i64 x, .int .i64 y] w fun e w' => e = .returned (.int .i64 (cmpI x y)) ∧ w' = w := by
  obtain ⟨r, hr⟩ : ∃ r, r = cmpI x y := ⟨_, rfl⟩
  rw [← hr]
  by_cases h1 : x < y
  · have e : r = -1 := by rw [hr]; unfold cmpI; rw [if_pos h1]
    subst e
    clear hr
    go_enter Tryz.func74, Tryz.ntmps74
    go_wp2_with fail
    refine (isNaN_any x _).mono ?_
    rintro e w8 ⟨rfl, rfl⟩
    go_wp2_with fail
    refine (isNaN_any y _).mono ?_
    rintro e w7 ⟨rfl, rfl⟩
    go_wp2
    go_ret
    exact ⟨rfl, rfl⟩
  · by_cases h2 : y < x
    · have e : r = 1 := by rw [hr]; unfold cmpI; rw [if_neg h1, if_pos h2]
      subst e
      clear hr
      go_enter Tryz.func74, Tryz.ntmps74
      go_wp2_with fail
      refine (isNaN_any x _).mono ?_
      rintro e w8 ⟨rfl, rfl⟩
      go_wp2_with fail
      refine (isNaN_any y _).mono ?_
      rintro e w7 ⟨rfl, rfl⟩
      go_wp2
      go_ret
      exact ⟨rfl, rfl⟩
    · have e : r = 0 := by rw [hr]; unfold cmpI; rw [if_neg h1, if_neg h2]
      subst e
      clear hr
      go_enter Tryz.func74, Tryz.ntmps74
      go_wp2_with fail
      refine (isNaN_any x _).mono ?_
      rintro e w8 ⟨rfl, rfl⟩
      go_wp2_with fail
      refine (isNaN_any y _).mono ?_
      rintro e w7 ⟨rfl, rfl⟩
      go_wp2
      go_ret
      exact ⟨rfl, rfl⟩
theorem place1_any (d y : Int) (t : ByteArray) (w : World) :
    Calls Tryz.prog 73 #[.agg #[.int .i64 d, .string t], .int .i64 y] w fun e w' => e = .returned (.int .i64 (cmpI d y)) ∧ Below w.heap.size w w' := by
  have hb := (Below.refl w.heap.size w).alloc (Nat.le_refl _) (.cells #[.int .i64 d, .string t] 62)
  have mn := fun z W => meth_number z W
  go_enter Tryz.func73, Tryz.ntmps73
  go_wp2_with fail
  refine (blNumber_any d t _).mono ?_
  rintro e w8 ⟨rfl, hb8⟩
  have hb9 := hb.trans (hb8.mono hb.size)
  clear hb8 hb
  go_wp2_with fail
  refine (compare_any d y _).mono ?_
  rintro e w7 ⟨rfl, rfl⟩
  go_wp2
  go_ret
  exact ⟨rfl, hb9⟩
end Go.Proofs.YtdiammehnakchacGreat
