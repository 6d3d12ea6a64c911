/- THE LAWS' OWN READERS OVER ROWS OF BLOBS: eqBlobS (of two that are alike), likeBlobs. -/
import Derived.Test.YtncmeocjiinmfalBlobS
import Derived.Test.YtncmeocjiinmfalDig
namespace Go.Proofs.Ytncmeocjiinmfal
open Go.RowKit
set_option linter.unusedVariables false
theorem ret_boolB {a b : Bool} (h : a = b) : Ending.returned (.bool a) = .returned (.bool b) := by rw [h]
theorem eqBlob_same (d : Int) (t : ByteArray) (w : World) :
    Calls Try.prog 42 #[.agg #[.int .i64 d, .string t], .agg #[.int .i64 d, .string t]] w fun e w' => e = .returned (.bool true) ∧ Below w.heap.size w w' := by
  have hb := ((Below.refl w.heap.size w).alloc (Nat.le_refl _) (.cells #[.int .i64 d, .string t] 51)).alloc (by simp) (.cells #[.int .i64 d, .string t] 51)
  go_enter Try.func42, Try.ntmps42
  go_wp2
  go_ret
  exact ⟨by first | rfl | simp, hb⟩
set_option maxHeartbeats 1000000 in
set_option maxRecDepth 100000 in
theorem eqBlobS_same (va vb : Value) (xs : List Bl) (w : World) (ha : RdB w va xs) (hb : RdB w vb xs) (hl : xs.length ≤ 1048576) :
    Calls Try.prog 13 #[va, vb] w fun e w' => e = .returned (.bool true) ∧ Below w.heap.size w w' := by
  rcases rdB_cases ha with ⟨h0, ao, cap, rfl⟩ | ⟨hp, b, off, cap, rfl, _, hlt, hc⟩
  · subst h0
    obtain ⟨bo, bcap, rfl⟩ := rdB_shape hb
    go_enter Try.func13, Try.ntmps13
    go_wp2
    refine wp_loop_rounds 1 ?_
    rw [rounds_succ]
    go_wp2
    go_ret
    exact ⟨rfl, Below.refl _ _⟩
  · rcases rdB_cases hb with ⟨h0, ao, cap', rfl⟩ | ⟨_, b', off', cap', rfl, _, hlt', hc'⟩
    · rw [h0] at hp; simp at hp
    · obtain ⟨n, hn⟩ : ∃ n, n = xs.length := ⟨_, rfl⟩
      rw [← hn] at hl hp hc hc' ⊢
      have HA := Lib.hid hc
      have HB := Lib.hid hc'
      clear hc hc' hp hn ha hb
      go_enter Try.func13, Try.ntmps13
      go_wp2
      go_loopw [5] (fun i wr => ∃ k : Nat, k ≤ n ∧ i = .int .i64 k ∧ Hid (Below w.heap.size w wr)) (fun i _ => n - (intOf i).toNat)
      case atStart => exact ⟨0, Nat.zero_le _, rfl, Below.refl _ _⟩
      case round =>
        rename World => w1
        obtain ⟨k, hk, rfl, hB⟩ := hrel
        have hs1 := hB.out.size
        by_cases hltk : k < n
        · obtain ⟨c0, c1⟩ := HA.out k hltk
          obtain ⟨c2, c3⟩ := HB.out k hltk
          have d0 := (hB.out.cell (p := ⟨b, off + k * 2, none⟩) hlt).trans c0
          have d1 := (hB.out.cell (p := ⟨b, off + k * 2 + 1, none⟩) hlt).trans c1
          have d2 := (hB.out.cell (p := ⟨b', off' + k * 2, none⟩) hlt').trans c2
          have d3 := (hB.out.cell (p := ⟨b', off' + k * 2 + 1, none⟩) hlt').trans c3
          obtain ⟨x, hxx⟩ : ∃ x, x = xs.getD k bl0 := ⟨_, rfl⟩
          rw [← hxx] at d0 d1 d2 d3
          obtain ⟨x1, x2⟩ := x
          clear hxx c0 c1 c2 c3
          have hcall := Lib.hid (fun W => eqBlob_same x1 x2 W)
          have hltI : (k : Int) < (n : Int) := by omega
          go_wp2
          go_region_with (first | (go_at_call 42; refine (hcall.out _).mono ?_; rintro e w2 ⟨rfl, hb2⟩))
          all_goals
            have HB2 : Hid (Below w.heap.size w w2) := by first | exact hB.out.trans (hb2.mono hs1) | exact hB.out.drew.trans (hb2.mono hs1)
            clear hcall hb2
            go_wp2
            go_roundw
            case rel => exact ⟨k + 1, by omega, by go_num, HB2⟩
            case measure => simp [intOf]; omega
        · go_wp2
          go_ret
          exact ⟨rfl, hB.out⟩
end Go.Proofs.Ytncmeocjiinmfal
