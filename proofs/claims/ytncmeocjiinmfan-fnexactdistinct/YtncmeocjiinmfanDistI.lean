/- CONTRACT: the program's Distinct (a set that grows). -/
import Derived.Test.YtncmeocjiinmfanNumAdd
import Derived.Test.YtncmeocjiinmfanBelT
import Derived.Test.YtncmeocjiinmfanSetOf
namespace Go.Proofs.Ytncmeocjiinmfan
open Go.RowKit Go.Maps
set_option linter.unusedVariables false
set_option maxHeartbeats 2000000 in
set_option maxRecDepth 100000 in
theorem implDistinct_any (va : Value) (c : List Int) (w : World) (ha : Rd w va (cellsInt64S c)) (hw64 : ∀ z ∈ c, In64 z) :
    Calls Try.prog 22 #[va] w fun e w' => e = .returned (.int .i64 (distT c)) ∧ Below w.heap.size w w' := by
  have hmm := @run_makeMap Try.prog
  have hla : (cellsInt64S c).length = c.length := by simp
  obtain ⟨ao, cap, hv, _, _⟩ := id ha
  rw [hla] at hv
  subst hv
  by_cases hl : 60 < c.length
  focus
    have hI : (60 : Int) < (c.length : Int) := by omega
    have e : distT c = -1 := by unfold distT; rw [if_neg (by omega)]
    rw [e]
    clear ha e
    go_enter Try.func22, Try.ntmps22
    go_wp2
    go_ret
    exact ⟨rfl, Below.refl _ _⟩
  have hI : ¬ (60 : Int) < (c.length : Int) := by omega
  have e : distT c = ((distK c []).length : Int) := by unfold distT; rw [if_pos (by omega)]
  rw [e]
  clear e
  have hso := setOf_any _ c w ha (by omega) hw64
  have hdk : ∀ (l o : List Int), distK l o = uniqK l o := fun l => by
    induction l with
    | nil => intro o; rfl
    | cons q t ih =>
      intro o
      by_cases h : q ∈ o
      · rw [distK_old h, uniqK_old h, ih]
      · rw [distK_new h, uniqK_new h, ih]
  rw [hdk]
  generalize uniqK c [] = R0 at hso ⊢
  generalize c.length = n at hI hso
  clear hdk ha hw64 hla hl hmm
  go_enter Try.func22, Try.ntmps22
  go_wp2_with fail
  refine hso.mono ?_
  rintro e w2 ⟨D, rfl, hm, hhas, hsz, hlt, hb⟩
  have HSZ := Lib.hid hsz
  clear hso hhas hsz
  go_wp2_with (at_len; refine wpList_len_own _ rfl _ 61 rfl 2 57 Try.underlying61 _ w.heap.size _ _ rfl hm ?_)
  go_wp2
  go_ret
  exact ⟨by rw [HSZ.out]; rfl, hb⟩
end Go.Proofs.Ytncmeocjiinmfan
