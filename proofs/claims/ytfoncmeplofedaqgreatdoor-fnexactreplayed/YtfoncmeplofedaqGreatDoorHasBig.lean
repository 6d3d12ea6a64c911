/- CONTRACT: the specification's l1Has, of a long row. -/
import Derived.Test.YtfoncmeplofedaqGreatDoorBuna
import Derived.Deep.LoopGhost
namespace Go.Proofs.YtfoncmeplofedaqGreatDoor
open Go.RowKit
set_option linter.unusedVariables false
set_option maxRecDepth 100000 in
theorem l1Has_big (va : Value) (l : List Int) (d : Int) (w : World) (ha : Rd w va (cellsInt64S l)) (hl : l.length ≤ 4194304) :
    Calls Tryz.prog 35 #[va, .int .i64 d] w fun e w' => e = .returned (.bool (l.contains d)) ∧ w' = w := by
  have hla : (cellsInt64S l).length = l.length := by simp
  rcases rd_cases ha with ⟨h0, ao, cap, rfl⟩ | ⟨hp, b, off, cap, rfl, _, hlt, hc⟩
  · have hx : l = [] := by simpa using h0
    subst hx
    go_enter Tryz.func35, Tryz.ntmps35
    go_wp2
    refine wp_loop_rounds 1 ?_
    rw [rounds_succ]
    go_wp2
    go_ret
    exact ⟨rfl, rfl⟩
  rw [hla] at hc hp ⊢
  have HA : Hid (∀ j, j < l.length → w.cell? ⟨b, off + j, none⟩ = some (.int .i64 (l.getD j 0))) := fun j hj => (hc j hj).trans (ints_get _ l j hj)
  have HY : Hid (∀ k, k < l.length → l.getD k 0 = d → l.contains d = true) := fun k hk h => by
    have e : l.getD k 0 = l[k] := by simp [List.getD, hk]
    rw [e] at h
    rw [← h]
    simp
  have HN : Hid ((∀ j, j < l.length → l.getD j 0 ≠ d) → l.contains d = false) := fun h => by
    cases hcn : l.contains d with
    | false => rfl
    | true =>
      have hm : d ∈ l := by simpa using hcn
      obtain ⟨j, hj, e⟩ := List.getElem_of_mem hm
      exact absurd (by simp [List.getD, hj, e]) (h j hj)
  generalize l.contains d = r at HY HN ⊢
  obtain ⟨n, hn⟩ : ∃ n, n = l.length := ⟨_, rfl⟩
  rw [← hn] at hp hl HA HY HN ⊢
  clear hc ha hn hla
  go_enter Tryz.func35, Tryz.ntmps35
  go_wp2
  go_loop [5] (fun i => ∃ k : Nat, k ≤ n ∧ i = .int .i64 k ∧ Hid (∀ j, j < k → l.getD j 0 ≠ d)) (fun i => n - (intOf i).toNat)
  case atStart => exact ⟨0, Nat.zero_le _, rfl, fun j h => by omega⟩
  case round =>
    obtain ⟨k, hk, rfl, hno⟩ := hrel
    by_cases hltk : k < n
    focus
      have d0 := HA.out k hltk
      have HYk := Lib.hid (fun h => HY.out k hltk h)
      have hnew : Hid (l.getD k 0 ≠ d → ∀ j, j < k + 1 → l.getD j 0 ≠ d) := fun h j hj => by
        rcases Nat.lt_or_ge j k with g | g
        · exact hno.out j g
        · obtain rfl : j = k := by omega
          exact h
      obtain ⟨x, hx⟩ : ∃ x, x = l.getD k 0 := ⟨_, rfl⟩
      rw [← hx] at d0 HYk hnew
      clear hx hno
      by_cases hxd : x = d
      focus
        have HR := Lib.hid (HYk.out hxd)
        subst hxd
        clear HYk hnew
        go_wp2
        go_ret
        exact ⟨ret_boolS HR.out.symm, rfl⟩
      have HS := Lib.hid (hnew.out hxd)
      have g1 : (x == d) = false := beq_eq_false_iff_ne.2 hxd
      clear HYk hnew
      go_wp2
      go_round
      case rel => exact ⟨k + 1, by omega, by go_num, HS⟩
      case measure => simp [intOf]; omega
    have HR := Lib.hid (HN.out (fun j hj => hno.out j (by omega)))
    go_wp2
    go_ret
    exact ⟨ret_boolS HR.out.symm, rfl⟩
end Go.Proofs.YtfoncmeplofedaqGreatDoor
