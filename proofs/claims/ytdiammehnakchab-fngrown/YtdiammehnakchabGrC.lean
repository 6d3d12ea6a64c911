/- CONTRACTS: the program's overfills; slices.IndexFunc, slices.ContainsFunc over texts. -/
import Derived.Test.YtdiammehnakchabTreeS
import Derived.Test.YtdiammehnakchabClashes
namespace Go.Proofs.Ytdiammehnakchab
open Go.RowKit
set_option linter.unusedVariables false
def fullB (c : ByteArray) : Bool := decide (1999 < (c.size : Int))
theorem anyS_yes {l : List ByteArray} {i : Nat} (hi : i < l.length) (h : fullB (l.getD i ByteArray.empty) = true) : l.any fullB = true := by
  rw [List.any_eq_true]
  have e : l.getD i ByteArray.empty = l[i] := by simp [List.getD, hi]
  rw [e] at h
  exact ⟨_, List.getElem_mem hi, h⟩
theorem anyS_no {l : List ByteArray} (h : ∀ i, i < l.length → fullB (l.getD i ByteArray.empty) = false) : l.any fullB = false := by
  rw [List.any_eq_false]
  intro p hp
  obtain ⟨i, hi, rfl⟩ := List.getElem_of_mem hp
  have := h i hi
  have e : l.getD i ByteArray.empty = l[i] := by simp [List.getD, hi]
  rw [e] at this
  simp [this]
theorem overfills_any (c : ByteArray) (w : World) (hc : c.size ≤ 9223372036854775807) : Calls Try.prog 133 #[.string c] w fun e w' => e = .returned (.bool (fullB c)) ∧ w' = w := by
  unfold fullB
  go_enter Try.func133, Try.ntmps133
  go_wp2
  go_ret
  exact ⟨rfl, rfl⟩
set_option maxHeartbeats 2000000 in
set_option maxRecDepth 100000 in
theorem indexFuncS_any (va : Value) (l : List ByteArray) (w : World) (ha : Rd w va (cellsS l)) (hl : l.length ≤ 1048576) (hs : ∀ p ∈ l, p.size ≤ 9223372036854775807) :
    Calls Try.prog 104 #[va, .func (.func 133) #[] #[]] w fun e w' => ∃ r : Int, e = .returned (.int .i64 r) ∧ ((r = -1 ∧ l.any fullB = false) ∨ (0 ≤ r ∧ l.any fullB = true)) ∧ w' = w := by
  have hla : (cellsS l).length = l.length := by simp
  have HS : Hid (∀ k, (l.getD k ByteArray.empty).size ≤ 9223372036854775807) := getD_size hs
  have HYES : Hid (∀ i, i < l.length → fullB (l.getD i ByteArray.empty) = true → l.any fullB = true) := fun i hi h => anyS_yes hi h
  have HNO : Hid ((∀ i, i < l.length → fullB (l.getD i ByteArray.empty) = false) → l.any fullB = false) := fun h => anyS_no h
  rcases rd_cases ha with ⟨h0, ao, cap, rfl⟩ | ⟨hp, b, off, cap, rfl, _, hlt, hc⟩
  · have hx : l = [] := by simpa using h0
    subst hx
    clear HS HYES HNO
    go_enter Try.func104, Try.ntmps104
    go_wp2
    refine wp_loop_rounds 1 ?_
    rw [rounds_succ]
    go_wp2
    go_ret
    exact ⟨-1, rfl, Or.inl ⟨rfl, rfl⟩, rfl⟩
  rw [hla] at hc hp
  have HA : Hid (∀ j, j < l.length → w.cell? ⟨b, off + j, none⟩ = some (.string (l.getD j ByteArray.empty))) := fun j hj => (hc j hj).trans (strs_get l j hj)
  rw [hla]
  generalize l.any fullB = r at HNO HYES ⊢
  obtain ⟨n, hn⟩ : ∃ n, n = l.length := ⟨_, rfl⟩
  rw [← hn] at hp hl HNO HYES HA ⊢
  clear hc ha hn hs hla
  go_enter Try.func104, Try.ntmps104
  go_wp2
  go_loop [8] (fun i => ∃ k : Nat, k ≤ n ∧ i = .int .i64 k ∧ Hid (∀ i, i < k → fullB (l.getD i ByteArray.empty) = false)) (fun i => n - (intOf i).toNat)
  case atStart => exact ⟨0, Nat.zero_le _, rfl, fun i h1 => by omega⟩
  case round =>
    obtain ⟨k, hk, rfl, hok⟩ := hrel
    by_cases hltk : k < n
    focus
      have d0 := HA.out k hltk
      have hsz := HS.out k
      have hyes := Lib.hid (HYES.out k hltk)
      have hnew : Hid (fullB (l.getD k ByteArray.empty) = false → ∀ i, i < k + 1 → fullB (l.getD i ByteArray.empty) = false) := fun h i hi => by
        rcases Nat.lt_or_ge i k with g | g
        · exact hok.out i g
        · obtain rfl : i = k := by omega
          exact h
      obtain ⟨x, hx⟩ : ∃ x, x = l.getD k ByteArray.empty := ⟨_, rfl⟩
      rw [← hx] at d0 hsz hyes hnew
      clear hx hok
      have hcall := overfills_any x w hsz
      cases hw : fullB x with
      | true =>
        rw [hw] at hcall
        have HR := Lib.hid (hyes.out hw)
        clear hyes hnew hw
        go_wp2_with fail
        refine hcall.mono ?_
        rintro e w2 ⟨rfl, rfl⟩
        clear hcall
        go_wp2
        go_ret
        exact ⟨(k : Int), rfl, Or.inr ⟨by omega, HR.out⟩, rfl⟩
      | false =>
        rw [hw] at hcall
        have HNW := Lib.hid (hnew.out hw)
        clear hyes hnew hw
        go_wp2_with fail
        refine hcall.mono ?_
        rintro e w2 ⟨rfl, rfl⟩
        clear hcall
        go_wp2
        go_round
        case rel => exact ⟨k + 1, by omega, by go_num, HNW⟩
        case measure => simp [intOf]; omega
    have HR := Lib.hid (HNO.out (fun i hi => hok.out i (by omega)))
    have hltI : ¬ (k : Int) < (n : Int) := by omega
    go_wp2
    go_ret
    exact ⟨-1, rfl, Or.inl ⟨rfl, HR.out⟩, rfl⟩
theorem containsFuncS_any (va : Value) (l : List ByteArray) (w : World) (ha : Rd w va (cellsS l)) (hl : l.length ≤ 1048576) (hs : ∀ p ∈ l, p.size ≤ 9223372036854775807) :
    Calls Try.prog 132 #[va, .func (.func 133) #[] #[]] w fun e w' => e = .returned (.bool (l.any fullB)) ∧ w' = w := by
  have hcall := indexFuncS_any va l w ha hl hs
  generalize l.any fullB = r at hcall ⊢
  obtain ⟨ao, cap, rfl⟩ : ∃ ao cap, va = .slice ao (cellsS l).length cap := by
    obtain ⟨ao, cap, h, _⟩ := ha
    exact ⟨ao, cap, h⟩
  generalize (cellsS l).length = n at hcall
  clear ha hs hl
  go_enter Try.func132, Try.ntmps132
  go_wp2_with fail
  refine hcall.mono ?_
  rintro e w2 ⟨i, rfl, h, rfl⟩
  rcases h with ⟨hi, hr⟩ | ⟨hi, hr⟩
  · have hI : ¬ 0 ≤ i := by omega
    clear hi hcall
    subst hr
    go_wp2
    go_ret
    exact ⟨by first | rfl | exact ret_bool (decide_eq_false (by omega)), rfl⟩
  · clear hcall
    subst hr
    go_wp2
    go_ret
    exact ⟨by first | rfl | exact ret_bool (decide_eq_true (by omega)), rfl⟩
end Go.Proofs.Ytdiammehnakchab
