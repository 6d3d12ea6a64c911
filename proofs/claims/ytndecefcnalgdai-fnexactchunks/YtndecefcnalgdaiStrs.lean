/- THE LAWS' OWN READERS OVER A SLICE OF TEXTS: eqStringS (of two that are alike), toStringS, szStringS. -/
import Derived.Test.YtndecefcnalgdaiBasis
namespace Go.Proofs.Ytndecefcnalgdai
open Go.RowKit

theorem eqS_same (va vb : Value) (xs : List ByteArray) (w : World) (ha : Rd w va (cellsS xs)) (hb : Rd w vb (cellsS xs)) (hl : xs.length ≤ 1048576) :
    Calls Try.prog 25 #[va, vb] w fun e w' => e = .returned (.bool true) ∧ Below w.heap.size w w' := by
  have hla : (cellsS xs).length = xs.length := by simp
  rcases rd_cases ha with ⟨h0, ao, cap, rfl⟩ | ⟨hp, b, off, cap, rfl, _, hlt, hc⟩
  · have hx : xs = [] := by simpa using h0
    subst hx
    obtain ⟨bo, bcap, rfl, _, _⟩ := hb
    go_enter Try.func25, Try.ntmps25
    go_wp2
    refine wp_loop_rounds 1 ?_
    rw [rounds_succ]
    go_wp2
    go_ret
    exact ⟨rfl, Below.refl _ _⟩
  · rcases rd_cases hb with ⟨h0, ao, cap', rfl⟩ | ⟨_, b', off', cap', rfl, _, hlt', hc'⟩
    · rw [h0] at hp; simp at hp
    · rw [hla] at hc hc' hp ⊢
      obtain ⟨n, hn⟩ : ∃ n, n = xs.length := ⟨_, rfl⟩
      rw [← hn] at hl hp hc hc' ⊢
      have HA : Hid (∀ j, j < n → w.cell? ⟨b, off + j, none⟩ = some (.string (xs.getD j ByteArray.empty))) := fun j hj => (hc j hj).trans (strs_get xs j (by omega))
      have HB : Hid (∀ j, j < n → w.cell? ⟨b', off' + j, none⟩ = some (.string (xs.getD j ByteArray.empty))) := fun j hj => (hc' j hj).trans (strs_get xs j (by omega))
      clear hc hc' hla hp hn ha hb
      go_enter Try.func25, Try.ntmps25
      go_wp2
      go_loopw [5] (fun i wr => ∃ k d : Nat, k ≤ n ∧ i = .int .i64 k ∧ wr = w.drewN d) (fun i _ => n - (intOf i).toNat)
      case atStart => exact ⟨0, 0, Nat.zero_le _, rfl, rfl⟩
      case round =>
        obtain ⟨k, d, hk, rfl, rfl⟩ := hrel
        by_cases hlt : k < n
        · have hca := HA.out k hlt
          have hcb := HB.out k hlt
          obtain ⟨z, hz⟩ : ∃ z, z = xs.getD k ByteArray.empty := ⟨_, rfl⟩
          rw [← hz] at hca hcb
          clear hz
          go_wp2
          go_quiet (fail)
          go_wp2
          go_roundw
          case rel => exact ⟨k + 1, _, by omega, by go_num, rfl⟩
          case measure => simp [intOf]; omega
        · go_wp2
          go_ret
          exact ⟨rfl, below_drewN (Below.refl _ _) _⟩

/-- what is left of l when the lengths of xs are taken off; -1 when it falls below 0 -/
def szF : List ByteArray → Int → Int
  | [], l => l
  | s :: r, l => if l - (s.size : Int) < 0 then -1 else szF r (l - (s.size : Int))
def szS (xs : List ByteArray) (l : Int) : Int := if l - (xs.length : Int) < 0 then -1 else szF xs (l - (xs.length : Int))
theorem szF_nonneg (xs : List ByteArray) : ∀ l, 0 ≤ szF xs l → 0 ≤ l → szF xs l ≤ l ∧ ∀ s ∈ xs, (s.size : Int) ≤ l := by
  induction xs with
  | nil => intro l _ _; exact ⟨Int.le_refl _, fun s hs => by cases hs⟩
  | cons s r ih =>
    intro l h h0
    rw [szF] at h ⊢
    by_cases hn : l - (s.size : Int) < 0
    · rw [if_pos hn] at h; omega
    · rw [if_neg hn] at h ⊢
      have h1 := ih _ h (by omega)
      refine ⟨by omega, fun x hx => ?_⟩
      rcases List.mem_cons.1 hx with rfl | hx
      · omega
      · have := h1.2 x hx; omega
theorem szS_nonneg {xs : List ByteArray} {l : Int} (h : 0 ≤ szS xs l) : (xs.length : Int) ≤ l ∧ ∀ s ∈ xs, (s.size : Int) ≤ l := by
  unfold szS at h
  by_cases hn : l - (xs.length : Int) < 0
  · rw [if_pos hn] at h; omega
  · rw [if_neg hn] at h
    have h1 := szF_nonneg xs _ h (by omega)
    exact ⟨by omega, fun s hs => by have := h1.2 s hs; omega⟩
theorem szF_drop (xs : List ByteArray) (k : Nat) (l : Int) (h : k < xs.length) : szF (xs.drop k) l = if l - ((xs.getD k ByteArray.empty).size : Int) < 0 then -1 else szF (xs.drop (k + 1)) (l - ((xs.getD k ByteArray.empty).size : Int)) := by
  have e : xs.drop k = xs.getD k ByteArray.empty :: xs.drop (k + 1) := by rw [List.drop_eq_getElem_cons h]; simp [List.getD, h]
  rw [e, szF]

end Go.Proofs.Ytndecefcnalgdai
