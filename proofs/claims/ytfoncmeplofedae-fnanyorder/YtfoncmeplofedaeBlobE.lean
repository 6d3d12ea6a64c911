/- THE LAWS' OWN READERS OVER ROWS OF BLOBS: eqBlobS (of two that are alike), likeBlobs. -/
import Derived.Test.YtfoncmeplofedaeBlobS
import Derived.Test.YtfoncmeplofedaeDig
namespace Go.Proofs.Ytfoncmeplofedae
open Go.RowKit
set_option linter.unusedVariables false
theorem ret_boolB {a b : Bool} (h : a = b) : Ending.returned (.bool a) = .returned (.bool b) := by rw [h]
set_option maxHeartbeats 2000000 in
set_option maxRecDepth 100000 in
theorem likeBlobs_any (va vb : Value) (xs ys : List Bl) (w : World) (ha : RdB w va xs) (hb : RdB w vb ys) (hl : xs.length ≤ 1048576) (hl2 : ys.length ≤ 1048576) :
    Calls Try.prog 23 #[va, vb] w fun e w' => e = .returned (.bool (decide (xs = ys))) ∧ Below w.heap.size w w' := by
  by_cases hne : xs.length = ys.length
  rotate_left
  focus
    have e : decide (xs = ys) = false := decide_eq_false (fun e => hne (by rw [e]))
    rw [e]
    obtain ⟨ao, cap, rfl⟩ := rdB_shape ha
    obtain ⟨bo, bcap, rfl⟩ := rdB_shape hb
    have hI : ((xs.length : Int) == (ys.length : Int)) = false := beq_eq_false_iff_ne.2 (fun e => hne (by omega))
    have hJ : ¬ (xs.length : Int) = (ys.length : Int) := by omega
    clear e
    go_enter Try.func23, Try.ntmps23
    go_wp2
    go_ret
    exact ⟨rfl, Below.refl _ _⟩
  rcases rdB_cases ha with ⟨h0, ao, cap, rfl⟩ | ⟨hp, b, off, cap, rfl, _, hlt, hc⟩
  · subst h0
    have hy : ys = [] := List.eq_nil_of_length_eq_zero hne.symm
    subst hy
    obtain ⟨bo, bcap, rfl⟩ := rdB_shape hb
    rw [decide_eq_true rfl]
    go_enter Try.func23, Try.ntmps23
    go_wp2
    refine wp_loop_rounds 1 ?_
    rw [rounds_succ]
    go_wp2
    go_ret
    exact ⟨rfl, Below.refl _ _⟩
  · rcases rdB_cases hb with ⟨h0, ao, cap', rfl⟩ | ⟨_, b', off', cap', rfl, _, hlt', hc'⟩
    · rw [h0] at hne; simp only [List.length_nil] at hne; omega
    · obtain ⟨n, hn⟩ : ∃ n, n = xs.length := ⟨_, rfl⟩
      rw [← hne, ← hn] at hc'
      rw [← hne, ← hn]
      rw [← hn] at hl hp hc
      have HA := Lib.hid hc
      have HB := Lib.hid hc'
      have HYES : Hid ((∀ j, j < n → xs.getD j bl0 = ys.getD j bl0) → decide (xs = ys) = true) := fun h => decide_eq_true (by
        refine List.ext_getElem hne fun i h1 h2 => ?_
        have := h i (by omega)
        simpa [List.getD, h1, h2] using this)
      have HNO : Hid (∀ j, j < n → xs.getD j bl0 ≠ ys.getD j bl0 → decide (xs = ys) = false) := fun j _ h => decide_eq_false (fun e => h (by rw [e]))
      generalize decide (xs = ys) = r at HYES HNO ⊢
      clear hc hc' hp hn ha hb hne hl2
      go_enter Try.func23, Try.ntmps23
      go_wp2
      go_loopw [5] (fun i wr => ∃ k d : Nat, k ≤ n ∧ i = .int .i64 k ∧ wr = w.drewN d ∧ Hid (∀ j, j < k → xs.getD j bl0 = ys.getD j bl0)) (fun i _ => n - (intOf i).toNat)
      case atStart => exact ⟨0, 0, Nat.zero_le _, rfl, rfl, fun j h => by omega⟩
      case round =>
        obtain ⟨k, d, hk, rfl, rfl, hsame⟩ := hrel
        by_cases hltk : k < n
        · obtain ⟨d0, d1⟩ := HA.out k hltk
          obtain ⟨d2, d3⟩ := HB.out k hltk
          have HNk := Lib.hid (HNO.out k hltk)
          have hnew : Hid (xs.getD k bl0 = ys.getD k bl0 → ∀ j, j < k + 1 → xs.getD j bl0 = ys.getD j bl0) := fun e j hj => by
            rcases Nat.lt_or_ge j k with g | g
            · exact hsame.out j g
            · obtain rfl : j = k := by omega
              exact e
          obtain ⟨x, hxx⟩ : ∃ x, x = xs.getD k bl0 := ⟨_, rfl⟩
          obtain ⟨y, hyy⟩ : ∃ y, y = ys.getD k bl0 := ⟨_, rfl⟩
          rw [← hxx] at d0 d1 HNk hnew
          rw [← hyy] at d2 d3 HNk hnew
          clear hxx hyy hsame
          have hltI : (k : Int) < (n : Int) := by omega
          by_cases hxy : x = y
          focus
            subst hxy
            obtain ⟨x1, x2⟩ := x
            have HS := Lib.hid (hnew.out rfl)
            clear hnew HNk
            go_wp2
            go_quiet (fail)
            go_wp2
            go_roundw
            case rel => exact ⟨k + 1, _, by omega, by go_num, rfl, HS⟩
            case measure => simp [intOf]; omega
          have HR := Lib.hid (HNk.out hxy)
          obtain ⟨x1, x2⟩ := x
          obtain ⟨y1, y2⟩ := y
          clear hnew HNk
          by_cases h1 : x1 = y1
          focus
            subst h1
            have h2 : ¬ x2 = y2 := fun e => hxy (by rw [e])
            have h2c : ¬ x2.toList = y2.toList := fun e => h2 (same_of e)
            have h2d : (x2.toList == y2.toList) = false := by simp [h2c]
            go_wp2
            go_quiet (fail)
            go_wp2
            go_ret
            exact ⟨ret_boolB HR.out.symm, by first | exact below_drewN (Below.refl _ _) _ | exact below_drewN (below_drewN (Below.refl _ _) _) _⟩
          have h1b : (x1 == y1) = false := by simp [h1]
          go_wp2
          go_quiet (fail)
          go_wp2
          go_ret
          exact ⟨ret_boolB HR.out.symm, by first | exact below_drewN (Below.refl _ _) _ | exact below_drewN (below_drewN (Below.refl _ _) _) _⟩
        · have HR := Lib.hid (HYES.out (fun j hj => hsame.out j (by omega)))
          go_wp2
          go_ret
          exact ⟨ret_boolB HR.out.symm, by first | exact below_drewN (Below.refl _ _) _ | exact below_drewN (below_drewN (Below.refl _ _) _) _⟩
end Go.Proofs.Ytfoncmeplofedae
