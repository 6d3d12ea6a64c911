/- CONTRACTS: how many bytes of text a row of Bits has: spec.Sent, impl.Sent. -/
import Derived.Test.YtdiammehnakchacSentMath
import Derived.Test.YtdiammehnakchacBitS
namespace Go.Proofs.Ytdiammehnakchac
open Go.RowKit
set_option linter.unusedVariables false
theorem ret_int9 {a b : Int} (h : a = b) : Ending.returned (.int .i64 a) = .returned (.int .i64 b) := by rw [h]
set_option maxHeartbeats 1000000 in
theorem specSent_any (va : Value) (xs : List Bl) (w : World) (ha : RdB w va xs) (hl : xs.length ≤ 1048576) (hs : ∀ p ∈ xs, p.2.size ≤ 1048576) :
    Calls Try.prog 17 #[va] w fun e w' => e = .returned (.int .i64 (sentT xs : Int)) ∧ Below w.heap.size w w' := by
  rcases rdB_cases ha with ⟨h1, ao, cap, rfl⟩ | ⟨hp, b, off, cap, rfl, _, hlt, hc⟩
  · subst h1
    go_enter Try.func17, Try.ntmps17
    go_wp2
    refine wp_loop_rounds 1 ?_
    rw [rounds_succ]
    go_wp2
    go_ret
    exact ⟨ret_int9 (by simp [sentT]), Below.refl _ _⟩
  · have HC := Lib.hid hc
    have HT : Hid (∀ k, k < xs.length → sentT (xs.take (k + 1)) = sentT (xs.take k) + (xs.getD k bl0).2.size) := fun k h => sentT_take h
    have HB : Hid (∀ k, k ≤ xs.length → sentT (xs.take k) ≤ 1099511627776) := fun k hk => by
      have h := sentT_le (l := xs.take k) (B := 1048576) (fun p hp => hs p (List.mem_of_mem_take hp))
      have h2 : (xs.take k).length ≤ 1048576 := by rw [List.length_take]; omega
      have h3 : (xs.take k).length * 1048576 ≤ 1048576 * 1048576 := Nat.mul_le_mul_right _ h2
      omega
    have HS : Hid (∀ k, k < xs.length → (xs.getD k bl0).2.size ≤ 1048576) := fun k hk => by
      have e : xs.getD k bl0 = xs[k] := by simp [List.getD, hk]
      rw [e]; exact hs _ (List.getElem_mem hk)
    have HALL : Hid (xs.take xs.length = xs) := List.take_length
    obtain ⟨n, hn⟩ : ∃ n, n = xs.length := ⟨_, rfl⟩
    rw [← hn] at hp hl HC HT HB HS HALL ⊢
    clear hc ha hs hn
    go_enter Try.func17, Try.ntmps17
    go_wp2
    go_loopw [3, 4] (fun q i wr => ∃ (k z : Nat), k ≤ n ∧ q = .int .i64 (z : Int) ∧ z = sentT (xs.take k) ∧ i = .int .i64 k ∧ wr = w) (fun _ i _ => n - (intOf i).toNat)
    case atStart => exact ⟨0, 0, Nat.zero_le _, rfl, rfl, rfl, rfl⟩
    case round =>
      obtain ⟨k, z, hk, rfl, hz, rfl, rfl⟩ := hrel
      have hzb : z ≤ 1099511627776 := by rw [hz]; exact HB.out k hk
      by_cases hltk : k < n
      · obtain ⟨c0, c1⟩ := HC.out k hltk
        have hsk := HS.out k hltk
        have HT2 := Lib.hid (HT.out k hltk)
        have HZ : Hid (z = sentT (xs.take k)) := hz
        obtain ⟨x, hx⟩ : ∃ x, x = (xs.getD k bl0).2 := ⟨_, rfl⟩
        rw [← hx] at c1 hsk HT2
        have HZ2 : Hid (z + x.size = sentT (xs.take (k + 1))) := by show _ = _; rw [HT2.out, ← HZ.out]
        clear hx hz c0 HT2 HZ
        go_wp2
        go_roundw
        case rel => exact ⟨k + 1, z + x.size, by omega, by go_num, HZ2.out, by go_num, trivial⟩
        case measure => simp [intOf]; omega
      · obtain rfl : k = n := by omega
        rw [HALL.out] at hz
        have HZ := Lib.hid hz
        clear hz
        go_wp2
        go_ret
        exact ⟨ret_int9 (by rw [HZ.out]), Below.refl _ _⟩
set_option maxHeartbeats 1000000 in
theorem implSent_any (va : Value) (xs : List Bl) (w : World) (ha : RdB w va xs) (hl : xs.length ≤ 1048576) (hs : ∀ p ∈ xs, p.2.size ≤ 1048576) :
    Calls Try.prog 16 #[va] w fun e w' => e = .returned (.int .i64 (sentT xs : Int)) ∧ Below w.heap.size w w' := by
  rcases rdB_cases ha with ⟨h1, ao, cap, rfl⟩ | ⟨hp, b, off, cap, rfl, _, hlt, hc⟩
  · subst h1
    go_enter Try.func16, Try.ntmps16
    go_wp2
    refine wp_loop_rounds 1 ?_
    rw [rounds_succ]
    go_wp2
    go_ret
    exact ⟨ret_int9 (by simp [sentT]), Below.refl _ _⟩
  · have HC := Lib.hid hc
    have HT : Hid (∀ k, k < xs.length → sentT (xs.take (k + 1)) = sentT (xs.take k) + (xs.getD k bl0).2.size) := fun k h => sentT_take h
    have HB : Hid (∀ k, k ≤ xs.length → sentT (xs.take k) ≤ 1099511627776) := fun k hk => by
      have h := sentT_le (l := xs.take k) (B := 1048576) (fun p hp => hs p (List.mem_of_mem_take hp))
      have h2 : (xs.take k).length ≤ 1048576 := by rw [List.length_take]; omega
      have h3 : (xs.take k).length * 1048576 ≤ 1048576 * 1048576 := Nat.mul_le_mul_right _ h2
      omega
    have HS : Hid (∀ k, k < xs.length → (xs.getD k bl0).2.size ≤ 1048576) := fun k hk => by
      have e : xs.getD k bl0 = xs[k] := by simp [List.getD, hk]
      rw [e]; exact hs _ (List.getElem_mem hk)
    have HALL : Hid (xs.take xs.length = xs) := List.take_length
    obtain ⟨n, hn⟩ : ∃ n, n = xs.length := ⟨_, rfl⟩
    rw [← hn] at hp hl HC HT HB HS HALL ⊢
    clear hc ha hs hn
    go_enter Try.func16, Try.ntmps16
    go_wp2
    go_loopw [3, 8] (fun q i wr => ∃ (k z : Nat), k ≤ n ∧ q = .int .i64 (z : Int) ∧ z = sentT (xs.take k) ∧ i = .int .i64 k ∧ Hid (Below w.heap.size w wr)) (fun _ i _ => n - (intOf i).toNat)
    case atStart => exact ⟨0, 0, Nat.zero_le _, rfl, rfl, rfl, Below.refl _ _⟩
    case round =>
      rename World => wr
      obtain ⟨k, z, hk, rfl, hz, rfl, hb⟩ := hrel
      have hs1 := hb.out.size
      have hzb : z ≤ 1099511627776 := by rw [hz]; exact HB.out k hk
      by_cases hltk : k < n
      · obtain ⟨c0, c1⟩ := HC.out k hltk
        have d0 := (hb.out.cell (p := ⟨b, off + k * 2, none⟩) hlt).trans c0
        have d1 := (hb.out.cell (p := ⟨b, off + k * 2 + 1, none⟩) hlt).trans c1
        have hsk := HS.out k hltk
        have HT2 := Lib.hid (HT.out k hltk)
        have HZ : Hid (z = sentT (xs.take k)) := hz
        obtain ⟨x, hx⟩ : ∃ x, x = (xs.getD k bl0).2 := ⟨_, rfl⟩
        obtain ⟨y, hy⟩ : ∃ y, y = (xs.getD k bl0).1 := ⟨_, rfl⟩
        rw [← hx] at d1 hsk HT2
        rw [← hy] at d0
        have HZ2 : Hid (z + x.size = sentT (xs.take (k + 1))) := by show _ = _; rw [HT2.out, ← HZ.out]
        have HB2 : Hid (Below w.heap.size w (wr.alloc (.cells #[.int .i64 y, .string x] 54))) := hb.out.alloc hs1 _
        clear hx hy hz c0 c1 HT2 HZ
        go_wp2
        go_roundw
        case rel => exact ⟨k + 1, z + x.size, by omega, by go_num, HZ2.out, by go_num, HB2⟩
        case measure => simp [intOf]; omega
      · obtain rfl : k = n := by omega
        rw [HALL.out] at hz
        have HZ := Lib.hid hz
        clear hz
        go_wp2
        go_ret
        exact ⟨ret_int9 (by rw [HZ.out]), hb.out⟩
end Go.Proofs.Ytdiammehnakchac
