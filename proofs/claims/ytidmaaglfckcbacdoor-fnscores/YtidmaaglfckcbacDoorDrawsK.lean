/- THE SPECIFICATION's DRAWS of chapter 12: DrawScore, DrawWinner, DrawRanks. -/
import Derived.Test.YtidmaaglfckcbacDoorDrawsQ
namespace Go.Proofs.YtidmaaglfckcbacDoor
open Go.RowKit
set_option linter.unusedVariables false
theorem drawScore_any (va : Value) (bs : List Int) (w : World) (ha : Rd w va (cellsByteS bs)) (hl : bs.length ≤ 4096) (hz : Bytes bs) :
    Calls Tryd.prog 27 #[va] w fun e w' => ∃ n k : Int, e = .returned (.tuple #[.int .i64 n, .int .i64 k]) ∧ -1 ≤ n ∧ n ≤ 9 ∧ -9223372036854775808 ≤ k ∧ k ≤ 4611686018427387904 ∧ Below w.heap.size w w' := by
  go_enter Tryd.func27, Tryd.ntmps27
  go_wp2_with fail
  refine (new_any va bs w ha hl (bytes_allQ hz)).mono ?_
  rintro e w1 ⟨rfl, hst1, hb1, hs1⟩
  go_wp2_with fail
  refine (fromQ_any w.heap.size va bs (-1) 9 w1 hst1 hl (bytes_allQ hz) (by omega) (by omega) (by omega)).mono ?_
  rintro e w2 ⟨n, rfl, hn0, hn1, hst2, hg2⟩
  have hb2 : Below w.heap.size w w2 := hb1.grown hg2 (by omega) (fun k hk => by cases hk; exact Nat.le_refl _)
  have hs2 := hg2.size
  clear hst1 ha hg2
  go_wp2_with fail
  refine (drawKey_any w.heap.size va bs w2 hst2 hl (bytes_allQ hz)).mono ?_
  rintro e w3 ⟨k, rfl, hk0, hk1, _, hg3⟩
  have HB3 : Hid (Below w.heap.size w w3) := hb2.grown hg3 (by omega) (fun k hk => by cases hk; exact Nat.le_refl _)
  clear hst2 hg3 hb2
  go_wp2
  go_ret2
  exact ⟨n, k, rfl, hn0, hn1, hk0, hk1, HB3.out⟩
theorem drawWinner_any (va : Value) (bs : List Int) (w : World) (ha : Rd w va (cellsByteS bs)) (hl : bs.length ≤ 4096) (hz : Bytes bs) :
    Calls Tryd.prog 56 #[va] w fun e w' => ∃ (v' : Value) (xs : List Int) (k : Int), e = .returned (.tuple #[v', .int .i64 k]) ∧ xs.length ≤ 7 ∧ (∀ x ∈ xs, -1 ≤ x ∧ x ≤ 18) ∧ -9223372036854775808 ≤ k ∧ k ≤ 4611686018427387904 ∧ w'.ownsRow w.heap.size 2 1 v' xs.length (cellsInt64S xs) ∧ Below w.heap.size w w' := by
  go_enter Tryd.func56, Tryd.ntmps56
  go_wp2_with fail
  refine (new_any va bs w ha hl (bytes_allQ hz)).mono ?_
  rintro e w1 ⟨rfl, hst1, hb1, hs1⟩
  go_wp2_with fail
  refine (drawNodes_any w.heap.size va bs w1 hst1 hl (bytes_allQ hz)).mono ?_
  rintro e w2 ⟨v', xs, rfl, hxl, hxr, ho2, hst2, hg2⟩
  have hvn : ∀ k, some w.heap.size = some k → v'.ownBlock ≠ some k := fun k hk h => by cases hk; have := (ho2.lt _ h).1; omega
  have hb2 : Below w.heap.size w w2 := hb1.grown hg2 (by omega) (fun k hk => by cases hk; exact Nat.le_refl _)
  have hs2 := hg2.size
  have HXR := Lib.hid hxr
  clear hst1 ha hxr hg2
  go_wp2_with fail
  refine (drawKey_any w.heap.size va bs w2 hst2 hl (bytes_allQ hz)).mono ?_
  rintro e w3 ⟨k, rfl, hk0, hk1, _, hg3⟩
  have HB3 : Hid (Below w.heap.size w w3) := hb2.grown hg3 (by omega) (fun k hk => by cases hk; exact Nat.le_refl _)
  have HO3 : Hid (w3.ownsRow w.heap.size 2 1 v' xs.length (cellsInt64S xs)) := owns_base (owns_grown ho2 hg3 hvn) (by omega)
  clear hst2 hg3 hb2 ho2 hvn
  go_wp2
  go_ret2
  exact ⟨v', xs, k, rfl, hxl, HXR.out, hk0, hk1, HO3.out, HB3.out⟩
theorem drawRanks_any (va : Value) (bs : List Int) (w : World) (ha : Rd w va (cellsByteS bs)) (hl : bs.length ≤ 4096) (hz : Bytes bs) :
    Calls Tryd.prog 24 #[va] w fun e w' => ∃ (v' : Value) (xs : List Int) (k : Int), e = .returned (.tuple #[v', .int .i64 k]) ∧ xs.length ≤ 7 ∧ (∀ x ∈ xs, -1 ≤ x ∧ x ≤ 18) ∧ -9223372036854775808 ≤ k ∧ k ≤ 4611686018427387904 ∧ w'.ownsRow w.heap.size 2 1 v' xs.length (cellsInt64S xs) ∧ Below w.heap.size w w' := by
  have hcall := drawWinner_any va bs w ha hl hz
  clear ha
  go_enter Tryd.func24, Tryd.ntmps24
  go_wp2_with fail
  refine hcall.mono ?_
  rintro e w2 ⟨v', xs, k, rfl, h1, h2, h3, h4, h5, h6⟩
  have H2 := Lib.hid h2
  have H5 := Lib.hid h5
  clear hcall h2 h5
  go_wp2
  go_ret2
  exact ⟨v', xs, k, rfl, h1, H2.out, h3, h4, H5.out, h6⟩
end Go.Proofs.YtidmaaglfckcbacDoor
