/- CONTRACT: laws.likeInts: are two lists alike. -/
import Derived.Test.YtfoncmeplofedabBasis
namespace Go.Proofs.Ytfoncmeplofedab
open Go.RowKit

theorem likeInts_any (va vb : Value) (xs ys : List Int) (w : World) (ha : Rd w va (cellsInt64S xs)) (hb : Rd w vb (cellsInt64S ys)) (hl : xs.length ≤ 140737488355328) (hl2 : ys.length ≤ 140737488355328) :
    Calls Try.prog 23 #[va, vb] w fun e w' => e = .returned (.bool (decide (xs = ys))) ∧ Below w.heap.size w w' := by
  have hla : (cellsInt64S xs).length = xs.length := by simp
  have hlb : (cellsInt64S ys).length = ys.length := by simp
  by_cases hne : xs.length = ys.length
  · rcases rd_cases ha with ⟨h0, ao, cap, rfl⟩ | ⟨hp, b, off, cap, rfl, _, hlt, hc⟩
    · have hx : xs = [] := by simpa using h0
      subst hx
      obtain rfl : ys = [] := List.eq_nil_of_length_eq_zero (by simpa using hne.symm)
      obtain ⟨bo, bcap, rfl, _, _⟩ := hb
      go_enter Try.func23, Try.ntmps23
      go_wp2
      refine wp_loop_rounds 1 ?_
      rw [rounds_succ]
      go_wp2
      go_ret
      exact ⟨rfl, Below.refl _ _⟩
    · rcases rd_cases hb with ⟨h0, ao, cap', rfl⟩ | ⟨hp', b', off', cap', rfl, _, hlt', hc'⟩
      · have hx : ys = [] := by simpa using h0
        subst hx
        simp at hne
        subst hne
        simp at hp
      · rw [hla] at hc hp ⊢
        rw [hlb] at hc' hp' ⊢
        have hca : ∀ j, j < xs.length → w.cell? ⟨b, off + j, none⟩ = some (.int .i64 (xs.getD j 0)) := fun j hj => (hc j hj).trans (ints_get _ xs j hj)
        have hcb : ∀ j, j < ys.length → w.cell? ⟨b', off' + j, none⟩ = some (.int .i64 (ys.getD j 0)) := fun j hj => (hc' j hj).trans (ints_get _ ys j hj)
        obtain ⟨n, hn⟩ : ∃ n, n = ys.length := ⟨_, rfl⟩
        rw [← hn] at hne ⊢
        rw [hne]
        have HN : Hid (n = ys.length) := hn
        have HX : Hid (xs.length = n) := hne
        have hnb : n ≤ 140737488355328 := by omega
        have HA : Hid (∀ j, j < n → w.cell? ⟨b, off + j, none⟩ = some (.int .i64 (xs.getD j 0))) := fun j hj => hca j (by omega)
        have HB : Hid (∀ j, j < n → w.cell? ⟨b', off' + j, none⟩ = some (.int .i64 (ys.getD j 0))) := fun j hj => hcb j (by omega)
        clear hc hc' hla hlb hca hcb hp hp' hl hl2 hne hn ha hb
        go_enter Try.func23, Try.ntmps23
        go_wp2
        go_loopw [5] (fun i wr => ∃ k d : Nat, k ≤ n ∧ i = .int .i64 k ∧ wr = w.drewN d ∧ xs.take k = ys.take k) (fun i _ => n - (intOf i).toNat)
        case atStart => exact ⟨0, 0, Nat.zero_le _, rfl, rfl, rfl⟩
        case round =>
          obtain ⟨k, d, hk, rfl, rfl, he⟩ := hrel
          have HE : Hid (xs.take k = ys.take k) := he
          clear he
          by_cases hlt : k < n
          · have hca := HA.out k hlt
            have hcb := HB.out k hlt
            by_cases hxy : xs.getD k 0 = ys.getD k 0
            · rw [hxy] at hca
              have hnq : (ys.getD k 0 != ys.getD k 0) = false := by simp
              obtain ⟨z, hz⟩ : ∃ z, z = ys.getD k 0 := ⟨_, rfl⟩
              rw [← hz] at hca hcb hnq
              have HZ : Hid (z = ys.getD k 0 ∧ xs.getD k 0 = ys.getD k 0) := ⟨hz, hxy⟩
              clear hz hxy
              go_wp2
              go_quiet (fail)
              go_wp2
              go_roundw
              case rel =>
                refine ⟨k + 1, _, by omega, by go_num, rfl, ?_⟩
                have h1 := HX.out
                have h2 := HN.out
                rw [take_snoc xs 0 k (by omega), take_snoc ys 0 k (by omega), HE.out, HZ.out.2]
              case measure => simp [intOf]; omega
            · have hnq : (xs.getD k 0 != ys.getD k 0) = true := by simpa using hxy
              obtain ⟨z, hz⟩ : ∃ z, z = ys.getD k 0 := ⟨_, rfl⟩
              obtain ⟨y, hy⟩ : ∃ y, y = xs.getD k 0 := ⟨_, rfl⟩
              rw [← hz] at hcb hnq
              rw [← hy] at hca hnq
              have HZ : Hid (z = ys.getD k 0 ∧ y = xs.getD k 0 ∧ ¬ xs.getD k 0 = ys.getD k 0) := ⟨hz, hy, hxy⟩
              clear hz hy hxy
              go_wp2
              go_quiet (fail)
              go_wp2
              go_ret
              refine ⟨?_, below_drewN (below_drewN (Below.refl _ _) _) _⟩
              have hf : ¬ xs = ys := by intro h; apply HZ.out.2.2; rw [h]
              rw [decide_eq_false hf]
              rfl
          · go_wp2
            go_ret
            refine ⟨?_, below_drewN (Below.refl _ _) _⟩
            have h1 := HX.out
            have h2 := HN.out
            have ht : xs = ys := by
              have h3 := HE.out
              rwa [List.take_of_length_le (by omega), List.take_of_length_le (by omega)] at h3
            rw [decide_eq_true ht]
            rfl
  · obtain ⟨ao, cap, rfl, _, _⟩ := ha
    obtain ⟨bo, bcap, rfl, _, _⟩ := hb
    rw [hla, hlb]
    have hnq : ((xs.length : Int) != (ys.length : Int)) = true := by rw [bne_iff_ne]; omega
    have hf : ¬ xs = ys := by intro h; apply hne; rw [h]
    rw [decide_eq_false hf]
    clear hf hne hla hlb
    go_enter Try.func23, Try.ntmps23
    go_wp2
    go_ret
    exact ⟨rfl, Below.refl _ _⟩


end Go.Proofs.Ytfoncmeplofedab
