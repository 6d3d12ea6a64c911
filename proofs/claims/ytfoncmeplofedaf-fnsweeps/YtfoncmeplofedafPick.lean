/- CONTRACTS: laws.big, laws.pick. -/
import Derived.Test.YtfoncmeplofedafBun
namespace Go.Proofs.Ytfoncmeplofedaf
open Go.RowKit

set_option maxRecDepth 100000 in
theorem pick_any (va : Value) (bs : List Int) (seed n : Int) (w : World) (ha : Rd w va (cellsByteS bs)) (hl : bs.length ≤ 4096) (hz : ∀ j, 0 ≤ bs.getD j 0 ∧ bs.getD j 0 ≤ 255) (h0 : 0 ≤ seed) (h1 : seed ≤ 1000000) (hn : 0 < n) (hn2 : n ≤ 4611686018427387903) :
    Calls Try.prog 10 #[va, .int .i64 seed, .int .i64 n] w fun e w' => ∃ r : Int, e = .returned (.int .i64 r) ∧ 0 ≤ r ∧ r < n ∧ Below w.heap.size w w' := by
  have hla : (cellsByteS bs).length = bs.length := by simp
  have hnz : (n == 0) = false := beq_eq_false_iff_ne.2 (by omega)
  rcases rd_cases ha with ⟨h2, ao, cap, rfl⟩ | ⟨hp, b, off, cap, rfl, _, hlt, hc⟩
  · have hx : bs = [] := by simpa using h2
    subst hx
    clear ha hz
    go_enter Try.func10, Try.ntmps10
    go_wp2
    refine wp_loop_rounds 1 ?_
    rw [rounds_succ]
    go_wp2
    go_ret
    exact ⟨_, rfl, Int.emod_nonneg _ (by omega), Int.emod_lt_of_pos _ hn, Below.refl _ _⟩
  · rw [hla] at hc hp ⊢
    have HA : Hid (∀ j, j < bs.length → w.cell? ⟨b, off + j, none⟩ = some (.int .u8 (bs.getD j 0))) := fun j hj => (hc j hj).trans (ints_get _ bs j hj)
    have HZ : Hid (∀ j, 0 ≤ bs.getD j 0 ∧ bs.getD j 0 ≤ 255) := hz
    clear ha hc hz hla
    go_enter Try.func10, Try.ntmps10
    go_wp2
    go_loop [7, 8] (fun q i => ∃ (k : Nat) (h : Int), k ≤ bs.length ∧ q = .int .i64 h ∧ 0 ≤ h ∧ h ≤ 10000000000 ∧ i = .int .i64 k) (fun _ i => bs.length - (intOf i).toNat)
    case atStart => exact ⟨0, _, Nat.zero_le _, rfl, by omega, by omega, rfl⟩
    case round =>
      obtain ⟨k, h, hk, rfl, hh0, hh1, rfl⟩ := hrel
      by_cases hltk : k < bs.length
      · have hcell := HA.out k hltk
        have hx := HZ.out k
        obtain ⟨x, hxx⟩ : ∃ x, x = bs.getD k 0 := ⟨_, rfl⟩
        rw [← hxx] at hcell hx
        obtain ⟨hx0, hx1⟩ := hx
        clear hxx
        go_wp2
        go_round
        case rel => exact ⟨k + 1, _, by omega, rfl, by omega, by omega, by go_num⟩
        case measure => simp [intOf]; omega
      · go_wp2
        go_ret
        exact ⟨_, rfl, Int.emod_nonneg _ (by omega), Int.emod_lt_of_pos _ hn, Below.refl _ _⟩

end Go.Proofs.Ytfoncmeplofedaf
