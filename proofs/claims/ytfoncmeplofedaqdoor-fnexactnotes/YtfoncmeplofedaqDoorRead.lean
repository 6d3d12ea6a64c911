/- CONTRACTS: (*impl.cursor).number. -/
import Derived.Test.YtfoncmeplofedaqDoorBasis
namespace Go.Proofs.YtfoncmeplofedaqDoor
open Go.RowKit

/-- the cursor at block cb -/
def Cur (w : World) (cb : Nat) (s : ByteArray) (p : Nat) : Prop := w.heap[cb]? = some (.cells #[.string s, .int .i64 (p : Int)] 53 (0, 0))
theorem cur_cell0 {w : World} {cb : Nat} {s : ByteArray} {p : Nat} (h : Cur w cb s p) : w.cell? ⟨cb, 0, none⟩ = some (.string s) := by
  rw [cell_of_row w cb 0 _ _ (0, 0) h]; rfl
theorem cur_cell1 {w : World} {cb : Nat} {s : ByteArray} {p : Nat} (h : Cur w cb s p) : w.cell? ⟨cb, 1, none⟩ = some (.int .i64 (p : Int)) := by
  rw [cell_of_row w cb 1 _ _ (0, 0) h]; rfl
theorem cur_free {w : World} {cb : Nat} {s : ByteArray} {p : Nat} (h : Cur w cb s p) (j : Nat) : w.frozen? ⟨cb, j, none⟩ = false := frozen_of_row w cb j _ _ h
theorem cur_lt {w : World} {cb : Nat} {s : ByteArray} {p : Nat} (h : Cur w cb s p) : cb < w.heap.size := (Array.getElem?_eq_some_iff.1 h).1

/-- what number looks at -/
def win (s : ByteArray) (p : Nat) : ByteArray := s.extract p (min (p + 6) s.size)

theorem slice_win (s : ByteArray) (p : Nat) (hp : p ≤ s.size) (w : World) :
    (Instr.slice 9 (.string s) (some (.int .i64 (p : Int))) (some (.int .i64 (if (p : Int) + 6 < (s.size : Int) then (p : Int) + 6 else (s.size : Int)))) none).run Tryd.prog w = .ok (.string (win s p)) w := by
  by_cases h : (p : Int) + 6 < (s.size : Int)
  · rw [if_pos h, run_slice_string _ 9 s .i64 .i64 _ _ Tryd.underlying9 (by omega) (by omega) (by omega)]
    have e1 : ((p : Int)).toNat = p := by omega
    have e2 : ((p : Int) + 6).toNat = min (p + 6) s.size := by omega
    rw [e1, e2]; rfl
  · rw [if_neg h, run_slice_string _ 9 s .i64 .i64 _ _ Tryd.underlying9 (by omega) (by omega) (by omega)]
    have e1 : ((p : Int)).toNat = p := by omega
    have e2 : ((s.size : Int)).toNat = min (p + 6) s.size := by omega
    rw [e1, e2]; rfl

/-- the number with which a row of bytes begins, and how many it takes; i: how many went before, n: what they made -/
def rdF : Nat → Nat → List Int → Option (Nat × Nat)
  | _, _, [] => none
  | i, n, b :: r => if b < 128 then (if 1099511627776 < n + b.toNat % 128 * 128 ^ i ∨ (b = 0 ∧ 0 < i) then none else some (n + b.toNat % 128 * 128 ^ i, i + 1)) else rdF (i + 1) (n + b.toNat % 128 * 128 ^ i) r

theorem pow_le_five (j : Nat) (h : j ≤ 5) : 128 ^ j ≤ 34359738368 := by
  have := Nat.pow_le_pow_right (n := 128) (by decide) h
  have e : (128 : Nat) ^ 5 = 34359738368 := by decide
  omega

/-- a step's summand, as a number -/
theorem shl_step (x : Int) (j : Nat) (h0 : 0 ≤ x) (hj : j ≤ 5) : wrap64 (x % 128 * 2 ^ (7 * j)) = ((x.toNat % 128 * 128 ^ j : Nat) : Int) ∧ x.toNat % 128 * 128 ^ j ≤ 4363686772736 := by
  have hp := pow_le_five j hj
  have h1 : x.toNat % 128 * 128 ^ j ≤ 127 * 34359738368 := Nat.mul_le_mul (by omega) hp
  have e : x % 128 * 2 ^ (7 * j) = ((x.toNat % 128 * 128 ^ j : Nat) : Int) := by
    rw [Int.natCast_mul, Int.natCast_emod, Int.toNat_of_nonneg h0, Int.pow_mul, Int.natCast_pow]
    rfl
  refine ⟨?_, by omega⟩
  rw [e]
  exact IntWalk.wrap64_in _ ⟨by omega, by omega⟩

theorem cur_below {w w' : World} {cb B : Nat} {s : ByteArray} {p : Nat} (h : Cur w cb s p) (hb : Below B w w') (hB : cb < B) : Cur w' cb s p := (hb.block cb hB).trans h

/-- the number at place p of s -/
def rdAt (s : ByteArray) (p : Nat) : Option (Nat × Nat) := rdF 0 0 (byts (win s p))

/-- what number leaves -/
def NumEnd (cb : Nat) (s : ByteArray) (p : Nat) (w : World) (e : Ending) (w' : World) : Prop :=
  match rdAt s p with
  | none => e = .returned (.tuple #[.int .i64 0, .bool false]) ∧ Below w.heap.size w w'
  | some (m, k) => e = .returned (.tuple #[.int .i64 (m : Int), .bool true]) ∧ Cur w' cb s (p + k) ∧ w.grownBy w' (some cb)

theorem numEnd_none {cb : Nat} {s : ByteArray} {p : Nat} {w : World} {w' : World} (h : rdAt s p = none) (hb : Below w.heap.size w w') : NumEnd cb s p w (.returned (.tuple #[.int .i64 0, .bool false])) w' := by
  unfold NumEnd; rw [h]; exact ⟨rfl, hb⟩
theorem numEnd_some {cb : Nat} {s : ByteArray} {p m k : Nat} {w : World} {w' : World} {z : Int} (h : rdAt s p = some (m, k)) (hz : z = (m : Int)) (hc : Cur w' cb s (p + k)) (hb : w.grownBy w' (some cb)) : NumEnd cb s p w (.returned (.tuple #[.int .i64 z, .bool true])) w' := by
  unfold NumEnd; rw [h]; exact ⟨by rw [hz], hc, hb⟩

theorem cur_store {w wr : World} {cb : Nat} {s : ByteArray} {p q : Nat} (hcu : Cur wr cb s p) (hb : Below w.heap.size w wr) (z : Int) (hz : z = (q : Int)) :
    Cur (wr.setCell ⟨cb, 1, none⟩ (.int .i64 z)) cb s q ∧ w.grownBy (wr.setCell ⟨cb, 1, none⟩ (.int .i64 z)) (some cb) := by
  subst hz
  refine ⟨?_, grown_trans ⟨hb.os, hb.tape, hb.output, hb.size, fun k hk _ => hb.block k hk⟩ ⟨rfl, rfl, rfl, by simp, fun k _ hk => heap_setCell_other wr ⟨cb, 1, none⟩ k _ (fun e => hk (by simp [e]))⟩⟩
  have h := heap_setCell_same wr cb 1 _ 53 (.int .i64 (q : Int)) hcu
  exact h

set_option maxHeartbeats 4000000 in
set_option maxRecDepth 100000 in
theorem number_any (cb : Nat) (s : ByteArray) (p : Nat) (w : World) (hc : Cur w cb s p) (hp : p ≤ s.size) (hs : s.size ≤ 140737488355328) :
    Calls Tryd.prog 20 #[.pointer (some ⟨cb, 0, none⟩)] w (NumEnd cb s p w) := by
  have h0 := cur_cell0 hc
  have h1 := cur_cell1 hc
  have hcv := fun (w : World) (s : ByteArray) => run_bytes_of_string (P := Tryd.prog) w 9 44 5 s Tryd.underlying9 Tryd.underlying44 Tryd.underlying5
  have hsl := slice_win s p hp
  obtain ⟨t, ht⟩ : ∃ t, t = win s p := ⟨_, rfl⟩
  rw [← ht] at hsl
  have HR : Hid (rdAt s p = rdF 0 0 (byts t)) := by unfold rdAt; rw [← ht]; rfl
  have ht6 : t.size ≤ 6 := by rw [ht]; simp [win]; omega
  clear ht
  have HC : Hid (Cur w cb s p) := hc
  by_cases hlt : (p : Int) + 6 < (s.size : Int)
  all_goals
    first | rw [if_pos hlt] at hsl | rw [if_neg hlt] at hsl
    go_enter Tryd.func20, Tryd.ntmps20
    go_wp2
    go_region
    go_wp2
    go_loopw [4, 29] (fun q i wr => ∃ j m : Nat, j ≤ t.size ∧ q = .int .i64 m ∧ i = .int .i64 j ∧ m ≤ 4398046511104 * j ∧ Hid (rdF 0 0 (byts t) = rdF j m ((byts t).drop j)) ∧ Cur wr cb s p ∧ Hid (∀ j, j < t.size → wr.cell? ⟨w.heap.size, j, none⟩ = some (.int .u8 ((byts t).getD j 0))) ∧ Below w.heap.size w wr) (fun _ i _ => t.size - (intOf i).toNat)
    case atStart =>
      have hb : Below w.heap.size w _ := (((Below.refl w.heap.size w).alloc (Nat.le_refl _) (.cells (bytesRow t (grownCap w.drew t.size 0 5)) 5 ((bytesRow t (grownCap w.drew t.size 0 5)).size, (bytesRow t (grownCap w.drew t.size 0 5)).size + 1))).drew).drew
      exact ⟨0, 0, Nat.zero_le _, rfl, rfl, Nat.zero_le _, rfl, cur_below HC.out hb (cur_lt HC.out), conv_cells w t _ _ _, hb⟩
    case round =>
      obtain ⟨j, m, hj, rfl, rfl, hm, hr, hcu, hce, hb⟩ := hrel
      have HCU : Hid (Cur wr cb s p) := hcu
      by_cases hjt : j < t.size
      · have hcj := hce.out j hjt
        have hj6 : j ≤ 5 := by omega
        have hx := byts_range t j
        obtain ⟨x, hxx⟩ : ∃ x, x = (byts t).getD j 0 := ⟨_, rfl⟩
        rw [← hxx] at hcj hx
        have HX : Hid (rdF 0 0 (byts t) = rdF j m (x :: (byts t).drop (j + 1))) := by
          have h := hr.out
          rw [drop_getD _ _ (by rw [byts_len]; exact hjt), ← hxx] at h
          exact h
        obtain ⟨hx0, hx1⟩ := hx
        have hm' : m ≤ 21990232555520 := by omega
        obtain ⟨hy1, hy2⟩ := shl_step x j hx0 hj6
        obtain ⟨y, hy⟩ : ∃ y, y = x.toNat % 128 * 128 ^ j := ⟨_, rfl⟩
        rw [← hy] at hy1 hy2
        have HY : Hid (y = x.toNat % 128 * 128 ^ j) := hy
        have HM : Hid (m ≤ 4398046511104 * j) := hm
        have hf := cur_free hcu 1
        have hc1 := cur_cell1 hcu
        clear hxx hm hsl hcv h0 h1 hlt hc hr hy hcu
        by_cases hb1 : 128 ≤ x
        · go_wp2
          go_roundw
          case rel =>
            refine ⟨j + 1, m + y, by omega, by go_num, by go_num, ?_, ?_, HCU.out, hce, hb⟩
            · have := HM.out; omega
            · have h := HX.out
              rw [rdF, if_neg (by omega)] at h
              rw [HY.out]; exact h
          case measure => simp [intOf]; omega
        · have HX2 : Hid (rdF 0 0 (byts t) = (if 1099511627776 < m + y ∨ (x = 0 ∧ 0 < j) then none else some (m + y, j + 1))) := by
            have h := HX.out
            rw [rdF, if_pos (by omega)] at h
            rw [HY.out]; exact h
          clear HX
          by_cases hbig : 1099511627776 < (m : Int) + (y : Int)
          · go_wp2
            go_ret2
            refine numEnd_none ?_ hb
            rw [HR.out, HX2.out, if_pos (Or.inl (by omega))]
          · by_cases hx2 : x = 0
            · by_cases hj0 : 0 < (j : Int)
              · have hxe : (x == 0) = true := by simp [hx2]
                have HZ : Hid (x = 0) := hx2
                clear hx2
                go_wp2
                go_ret2
                refine numEnd_none ?_ hb
                have h := HZ.out
                rw [HR.out, HX2.out, if_pos (Or.inr ⟨h, by omega⟩)]
              · have hxe : (x == 0) = true := by simp [hx2]
                have hjd : decide (0 < (j : Int)) = false := by simp; omega
                clear hx2
                go_wp2
                go_ret2
                refine numEnd_some (m := m + y) (k := j + 1) ?_ (by omega) ?_ ?_
                rotate_left
                · exact (cur_store HCU.out hb _ (by omega)).1
                · exact (cur_store (q := p + (j + 1)) HCU.out hb _ (by omega)).2
                rw [HR.out, HX2.out, if_neg (by omega)]
            · have hxe : (x == 0) = false := by simp [hx2]
              have HZ : Hid (¬ x = 0) := hx2
              clear hx2
              go_wp2
              go_ret2
              refine numEnd_some (m := m + y) (k := j + 1) ?_ (by omega) ?_ ?_
              rotate_left
              · exact (cur_store HCU.out hb _ (by omega)).1
              · exact (cur_store (q := p + (j + 1)) HCU.out hb _ (by omega)).2
              have h := HZ.out
              rw [HR.out, HX2.out, if_neg (by omega)]
      · clear hsl hcv h0 h1 hlt hc hcu
        go_wp2
        go_ret2
        refine numEnd_none ?_ hb
        have h := hr.out
        rw [List.drop_of_length_le (by rw [byts_len]; omega)] at h
        rw [HR.out, h]
        rfl
end Go.Proofs.YtfoncmeplofedaqDoor
