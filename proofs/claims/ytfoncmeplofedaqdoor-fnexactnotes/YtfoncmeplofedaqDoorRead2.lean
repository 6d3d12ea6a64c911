/- CONTRACTS: spec.ReadNumber, impl.ReadNumber: the number with which a row of bytes begins. -/
import Derived.Test.YtfoncmeplofedaqDoorRead
namespace Go.Proofs.YtfoncmeplofedaqDoor
open Go.RowKit

/-- what ReadNumber tells of bytes zs -/
def rd (zs : List Int) : Option (Nat × Nat) := rdF 0 0 (zs.take 6)
def rdV (zs : List Int) : Value := match rd zs with
  | none => .tuple #[.int .i64 0, .int .i64 0]
  | some (m, k) => .tuple #[.int .i64 (m : Int), .int .i64 (k : Int)]
theorem rdV_none {zs : List Int} (h : rd zs = none) : rdV zs = .tuple #[.int .i64 0, .int .i64 0] := by unfold rdV; rw [h]
theorem rdV_some {zs : List Int} {m k : Nat} (h : rd zs = some (m, k)) : rdV zs = .tuple #[.int .i64 (m : Int), .int .i64 (k : Int)] := by unfold rdV; rw [h]
theorem rdV_form (zs : List Int) : ∃ p q : Nat, rdV zs = .tuple #[.int .i64 (p : Int), .int .i64 (q : Int)] := by
  cases h : rd zs with
  | none => exact ⟨0, 0, rdV_none h⟩
  | some x => exact ⟨x.1, x.2, rdV_some h⟩
theorem rdEnd_none {zs : List Int} (h : rd zs = none) : Ending.returned (.tuple #[.int .i64 0, .int .i64 0]) = .returned (rdV zs) := by rw [rdV_none h]
theorem rdEnd_some {zs : List Int} {m k : Nat} {x y : Int} (h : rd zs = some (m, k)) (hx : x = (m : Int)) (hy : y = (k : Int)) : Ending.returned (.tuple #[.int .i64 x, .int .i64 y]) = .returned (rdV zs) := by rw [rdV_some h, hx, hy]

theorem mul_step (x : Int) (W j : Nat) (hW : W = 128 ^ j) (h0 : 0 ≤ x) (hj : j ≤ 5) : wrap64 (x % 128 * (W : Int)) = ((x.toNat % 128 * 128 ^ j : Nat) : Int) := by
  have h := shl_step x j h0 hj
  have e : x % 128 * (W : Int) = x % 128 * 2 ^ (7 * j) := by
    rw [hW, Int.pow_mul, Int.natCast_pow]; rfl
  rw [e]; exact h.1

set_option maxHeartbeats 2000000 in
set_option maxRecDepth 100000 in
theorem specRead_any (va : Value) (zs : List Int) (w : World) (ha : Rd w va (cellsByteS zs)) (hz : Bytes zs) (hl : zs.length ≤ 140737488355328) :
    Calls Tryd.prog 14 #[va] w fun e w' => e = .returned (rdV zs) ∧ Below w.heap.size w w' := by
  have hla : (cellsByteS zs).length = zs.length := by simp
  rcases rd_cases ha with ⟨h0, ao, cap, rfl⟩ | ⟨hp, b, off, cap, rfl, _, hlt, hc⟩
  · have hx : zs = [] := by simpa using h0
    subst hx
    go_enter Tryd.func14, Tryd.ntmps14
    go_wp2
    refine wp_loop_rounds 1 ?_
    rw [rounds_succ]
    go_wp2
    go_ret2
    exact ⟨rdEnd_none rfl, Below.refl _ _⟩
  · rw [hla] at hc hp ⊢
    obtain ⟨n, hn⟩ : ∃ n, n = zs.length := ⟨_, rfl⟩
    rw [← hn] at hc hp hl ⊢
    have HN : Hid (n = zs.length) := hn
    have HA : Hid (∀ j, j < n → w.cell? ⟨b, off + j, none⟩ = some (.int .u8 (zs.getD j 0))) := fun j hj => (hc j hj).trans (ints_get _ zs j (by omega))
    have HZ : Hid (Bytes zs) := hz
    clear hc hla ha hn hz
    go_enter Tryd.func14, Tryd.ntmps14
    go_wp2
    go_loop [4, 5, 6] (fun q u i => ∃ j m W : Nat, j ≤ n ∧ j ≤ 6 ∧ q = .int .i64 m ∧ u = .int .i64 W ∧ i = .int .i64 j ∧ m ≤ 4398046511104 * j ∧ Hid (W = 128 ^ j) ∧ Hid (rd zs = rdF j m ((zs.take 6).drop j))) (fun _ _ i => n - (intOf i).toNat)
    case atStart => exact ⟨0, 0, 1, Nat.zero_le _, by omega, rfl, rfl, rfl, Nat.zero_le _, rfl, rfl⟩
    case round =>
      obtain ⟨j, m, W, hj, hj6, rfl, rfl, rfl, hm, hW, hr⟩ := hrel
      by_cases hjn : j < n
      · by_cases hj5 : j < 6
        · have hcj := HA.out j hjn
          have hx := bytes_get HZ.out j
          have HX : Hid (rd zs = rdF j m (zs.getD j 0 :: (zs.take 6).drop (j + 1))) := by
            have h := hr.out
            have hn := HN.out
            rw [drop_getD _ _ (by simp; omega), take_getD _ _ _ hj5] at h
            exact h
          obtain ⟨x, hxx⟩ : ∃ x, x = zs.getD j 0 := ⟨_, rfl⟩
          rw [← hxx] at hcj hx HX
          obtain ⟨hx0, hx1⟩ := hx
          have hy1 := mul_step x W j hW.out hx0 (by omega)
          have hy2 := (shl_step x j hx0 (by omega)).2
          obtain ⟨y, hy⟩ : ∃ y, y = x.toNat % 128 * 128 ^ j := ⟨_, rfl⟩
          rw [← hy] at hy1 hy2
          have HY : Hid (y = x.toNat % 128 * 128 ^ j) := hy
          have hWb : W ≤ 34359738368 := by rw [hW.out]; exact pow_le_five j (by omega)
          have hm' : m ≤ 21990232555520 := by omega
          have HM : Hid (m ≤ 4398046511104 * j) := hm
          clear hxx hy hm hr
          by_cases hb1 : 128 ≤ x
          · go_wp2
            go_round
            case rel =>
              refine ⟨j + 1, m + y, W * 128, by omega, by omega, by go_num, by go_num, by go_num, ?_, ?_, ?_⟩
              · have := HM.out; omega
              · show _ = _
                rw [hW.out, Nat.pow_succ]
              · have h := HX.out
                rw [rdF, if_neg (by omega)] at h
                rw [HY.out]; exact h
            case measure => simp [intOf]; omega
          · have HX2 : Hid (rd zs = (if 1099511627776 < m + y ∨ (x = 0 ∧ 0 < j) then none else some (m + y, j + 1))) := by
              have h := HX.out
              rw [rdF, if_pos (by omega)] at h
              rw [HY.out]; exact h
            clear HX
            by_cases hbig : 1099511627776 < (m : Int) + (y : Int)
            · go_wp2
              go_ret2
              refine ⟨rdEnd_none ?_, Below.refl _ _⟩
              rw [HX2.out, if_pos (Or.inl (by omega))]
            · by_cases hx2 : x = 0
              · by_cases hj0 : 0 < (j : Int)
                · have hxe : (x == 0) = true := by simp [hx2]
                  have HZ2 : Hid (x = 0) := hx2
                  clear hx2
                  go_wp2
                  go_ret2
                  refine ⟨rdEnd_none ?_, Below.refl _ _⟩
                  have h := HZ2.out
                  rw [HX2.out, if_pos (Or.inr ⟨h, by omega⟩)]
                · have hxe : (x == 0) = true := by simp [hx2]
                  have hjd : decide (0 < (j : Int)) = false := by simp; omega
                  clear hx2
                  go_wp2
                  go_ret2
                  refine ⟨rdEnd_some (m := m + y) (k := j + 1) ?_ (by omega) (by omega), Below.refl _ _⟩
                  rw [HX2.out, if_neg (by omega)]
              · have hxe : (x == 0) = false := by simp [hx2]
                have HZ2 : Hid (¬ x = 0) := hx2
                clear hx2
                by_cases hj0 : 0 < (j : Int)
                · go_wp2
                  go_ret2
                  refine ⟨rdEnd_some (m := m + y) (k := j + 1) ?_ (by omega) (by omega), Below.refl _ _⟩
                  have h := HZ2.out
                  rw [HX2.out, if_neg (by omega)]
                · have hjd : decide (0 < (j : Int)) = false := by simp; omega
                  go_wp2
                  go_ret2
                  refine ⟨rdEnd_some (m := m + y) (k := j + 1) ?_ (by omega) (by omega), Below.refl _ _⟩
                  have h := HZ2.out
                  rw [HX2.out, if_neg (by omega)]
        · have hjd : decide ((j : Int) < 6) = false := by simp; omega
          go_wp2
          go_ret2
          refine ⟨rdEnd_none ?_, Below.refl _ _⟩
          rw [hr.out, List.drop_of_length_le (by simp; omega)]
          rfl
      · have hjd : decide ((j : Int) < (n : Int)) = false := by simp; omega
        go_wp2
        go_ret2
        refine ⟨rdEnd_none ?_, Below.refl _ _⟩
        have hn := HN.out
        rw [hr.out, List.drop_of_length_le (by simp; omega)]
        rfl

end Go.Proofs.YtfoncmeplofedaqDoor
