/- CONTRACT: laws.likeTexts, of two lists that are alike. -/
import Derived.Test.YtfoncmeplofedaaBasis
namespace Go.Proofs.Ytfoncmeplofedaa
open Go.RowKit

theorem likeTexts_same (va vb : Value) (xs : List ByteArray) (w : World) (ha : Rd w va (cellsS xs)) (hb : Rd w vb (cellsS xs)) (hl : xs.length ≤ 1048576) :
    Calls Try.prog 28 #[va, vb] w fun e w' => e = .returned (.bool true) ∧ Below w.heap.size w w' := by
  have hla : (cellsS xs).length = xs.length := by simp
  rcases rd_cases ha with ⟨h0, ao, cap, rfl⟩ | ⟨hp, b, off, cap, rfl, _, hlt, hc⟩
  · have hx : xs = [] := by simpa using h0
    subst hx
    obtain ⟨bo, bcap, rfl, _, _⟩ := hb
    go_enter Try.func28, Try.ntmps28
    go_wp2
    refine wp_loop_rounds 1 ?_
    rw [rounds_succ]
    go_wp2
    go_ret
    exact ⟨rfl, Below.refl _ _⟩
  · rcases rd_cases hb with ⟨h0, ao, cap', rfl⟩ | ⟨_, b', off', cap', rfl, _, hlt', hc'⟩
    · rw [h0] at hp; simp at hp
    · rw [hla] at hc hc' hp ⊢
      obtain ⟨n, hn⟩ : ∃ n, n = xs.length := ⟨_, rfl⟩
      rw [← hn] at hl hp hc hc' ⊢
      have HA : Hid (∀ j, j < n → w.cell? ⟨b, off + j, none⟩ = some (.string (xs.getD j ByteArray.empty))) := fun j hj => (hc j hj).trans (strs_get xs j (by omega))
      have HB : Hid (∀ j, j < n → w.cell? ⟨b', off' + j, none⟩ = some (.string (xs.getD j ByteArray.empty))) := fun j hj => (hc' j hj).trans (strs_get xs j (by omega))
      clear hc hc' hla hp hn ha hb
      go_enter Try.func28, Try.ntmps28
      go_wp2
      go_loopw [5] (fun i wr => ∃ k d : Nat, k ≤ n ∧ i = .int .i64 k ∧ wr = w.drewN d) (fun i _ => n - (intOf i).toNat)
      case atStart => exact ⟨0, 0, Nat.zero_le _, rfl, rfl⟩
      case round =>
        obtain ⟨k, d, hk, rfl, rfl⟩ := hrel
        by_cases hlt : k < n
        · have hca := HA.out k hlt
          have hcb := HB.out k hlt
          obtain ⟨z, hz⟩ : ∃ z, z = xs.getD k ByteArray.empty := ⟨_, rfl⟩
          rw [← hz] at hca hcb
          clear hz
          go_wp2
          go_quiet (fail)
          go_wp2
          go_roundw
          case rel => exact ⟨k + 1, _, by omega, by go_num, rfl⟩
          case measure => simp [intOf]; omega
        · go_wp2
          go_ret
          exact ⟨rfl, below_drewN (Below.refl _ _) _⟩

end Go.Proofs.Ytfoncmeplofedaa
