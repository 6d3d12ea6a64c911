/- CONTRACTS: the numbers of all windows: the specification's Rolls. The mathematics ahead of it speaks of no program. -/
import Derived.Test.YtndecefcnalgdaaRoll
namespace Go.Proofs.Ytndecefcnalgdaa
open Go.RowKit

/-- the number of the k-th window of n bytes -/
def wroll (s : ByteArray) (n k : Nat) : Int := rollL (((byts s).drop k).take n)
/-- those of the first k windows -/
def rollsN (s : ByteArray) (n k : Nat) : List Int := (List.range k).map (wroll s n)
/-- what Rolls tells -/
def rollsT (s : ByteArray) (n : Int) : List Int := if (1 ≤ n ∧ n ≤ 16) ∧ s.size ≤ 20000 then rollsN s n.toNat (s.size + 1 - n.toNat) else []

theorem byts_extract (s : ByteArray) (a b : Nat) : byts (s.extract a b) = ((byts s).drop a).take (b - a) := by
  unfold byts
  rw [ByteArray.data_extract, Array.toList_extract, List.extract_eq_take_drop, List.map_take, List.map_drop]
theorem wroll_eq (s : ByteArray) (n k : Nat) : roll (s.extract k (k + n)) = wroll s n k := by
  unfold roll wroll
  rw [byts_extract, Nat.add_sub_cancel_left]
theorem rollsN_succ (s : ByteArray) (n k : Nat) : rollsN s n (k + 1) = rollsN s n k ++ [wroll s n k] := by simp [rollsN, List.range_succ]
theorem rollsN_len (s : ByteArray) (n k : Nat) : (rollsN s n k).length = k := by simp [rollsN]
theorem rollsN_get (s : ByteArray) (n k j : Nat) (h : j < k) : (rollsN s n k).getD j 0 = wroll s n j := by simp [rollsN, List.getD, h]
theorem wroll_in (s : ByteArray) (n k : Nat) : 0 ≤ wroll s n k ∧ wroll s n k ≤ 65520 := rollL_in _
theorem rollsT_len (s : ByteArray) (n : Int) : (rollsT s n).length ≤ 20000 := by
  unfold rollsT
  split
  · rw [rollsN_len]; omega
  · simp

set_option maxHeartbeats 1000000 in
set_option maxRecDepth 100000 in
theorem specRolls_any (s : ByteArray) (n : Int) (w : World) (hs : s.size ≤ 9223372036854775807) :
    Calls Try.prog 43 #[.string s, .int .i64 n] w fun e w' => ∃ v, e = .returned v ∧ w'.ownsRow w.heap.size 2 1 v (rollsT s n).length (cellsInt64S (rollsT s n)) ∧ Below w.heap.size w w' := by
  obtain ⟨i0, hi, hz0, hz1, hz2⟩ := info_parts Try.info64
  by_cases hn : 1 ≤ n ∧ n ≤ 16
  · have hnd : decide (1 ≤ n ∧ n ≤ 16) = true := decide_eq_true hn
    by_cases hbig : 20000 < (s.size : Int)
    · have e : rollsT s n = [] := by unfold rollsT; rw [if_neg (by omega)]
      rw [e]
      clear e
      go_enter Try.func43, Try.ntmps43
      go_wp2_with fail
      refine (l1In_any _ _ _ _).mono ?_
      rintro e w1 ⟨rfl, rfl⟩
      rw [hnd]
      go_wp2
      go_ret
      exact ⟨_, rfl, World.ownsRow_lit w #[] 0 (Nat.le_refl _) (Nat.zero_le _) rfl, (Below.refl _ _).alloc (Nat.le_refl _) _⟩
    · obtain ⟨m, rfl⟩ := Int.eq_ofNat_of_zero_le (show 0 ≤ n by omega)
      have HE : Hid (rollsT s (m : Int) = rollsN s m (s.size + 1 - m)) := by show _ = _; unfold rollsT; rw [if_pos ⟨hn, by omega⟩, Int.toNat_natCast]
      go_enter Try.func43, Try.ntmps43
      go_wp2_with fail
      refine (l1In_any _ _ _ _).mono ?_
      rintro e w1 ⟨rfl, rfl⟩
      rw [hnd]
      go_wp2
      go_loopw [5, 6] (fun v i wr => ∃ k : Nat, k ≤ s.size + 1 - m ∧ i = .int .i64 k ∧ wr.ownsRow w.heap.size 2 1 v (rollsN s m k).length (cellsInt64S (rollsN s m k)) ∧ Below w.heap.size w wr) (fun _ i _ => s.size + 1 - m - (intOf i).toNat)
      case atStart => exact ⟨0, Nat.zero_le _, rfl, World.ownsRow_lit w #[] 0 (Nat.le_refl _) (Nat.zero_le _) rfl, (Below.refl _ _).alloc (Nat.le_refl _) _⟩
      case round =>
        obtain ⟨k, hk, rfl, ho, hb⟩ := hrel
        have hsz := hb.size
        by_cases hlt : k < s.size + 1 - m
        · have hlt2 : (k : Int) + (m : Int) ≤ (s.size : Int) := by omega
          have hsl : ∀ W : World, (Instr.slice 9 (.string s) (some (.int .i64 (k : Int))) (some (.int .i64 ((k : Int) + (m : Int)))) none).run Try.prog W = .ok (.string (s.extract k (k + m))) W := fun W => by
            rw [run_slice_string _ 9 s .i64 .i64 _ _ Try.underlying9 (by omega) (by omega) (by omega)]
            rw [show ((k : Int)).toNat = k by omega, show ((k : Int) + (m : Int)).toNat = k + m by omega]
          have hwr := wroll_eq s m k
          have hts : (s.extract k (k + m)).size ≤ 9223372036854775807 := by rw [ByteArray.size_extract]; omega
          obtain ⟨t, ht⟩ : ∃ t, t = s.extract k (k + m) := ⟨_, rfl⟩
          rw [← ht] at hsl hwr hts
          have hrl := rollsN_len s m k
          have HN : Hid (rollsN s m (k + 1) = rollsN s m k ++ [roll t]) := by show _ = _; rw [rollsN_succ, hwr]
          obtain ⟨acc, hacc⟩ : ∃ acc, acc = rollsN s m k := ⟨_, rfl⟩
          rw [← hacc] at ho hrl HN
          clear ht hwr hacc
          go_wp2_with fail
          refine (specRoll_any t _ hts).mono ?_
          rintro e w2 ⟨rfl, rfl⟩
          obtain ⟨x, hx⟩ : ∃ x, x = roll t := ⟨_, rfl⟩
          rw [← hx] at HN ⊢
          clear hx
          go_wp2_with (at_builtin; refine wpList_append_own _ rfl _ _ 29 rfl w.heap.size 2 i0 (.int .i64 0) 1 8 Try.underlying29 hi hz0 hz1 hz2 rfl (by decide) _ _ _ rfl (ho.alloc _) ⟨w2.heap.size, 0, none⟩ 1 1 [.int .i64 x] rfl rfl ?c1 ?c2 ?c3 ?c4 ?c5 ?_)
          case c1 => exact one_cell w2 .i64 _ _
          case c2 => exact ints_oneCell .i64 [x]
          case c3 => unfold maxLen; omega
          case c4 => omega
          case c5 => simp; omega
          intro v3 w3 ho3 hg3 _
          have hb3 : Below w.heap.size w w3 := (hb.alloc (by omega) _).grown hg3 (by simp; omega) (fun k hk => (ho.lt k hk).1)
          have ho4 : w3.ownsRow w.heap.size 2 1 v3 (rollsN s m (k + 1)).length (cellsInt64S (rollsN s m (k + 1))) := by rw [HN.out]; simpa [hrl, cellsInt64S] using ho3
          clear ho3 hg3 ho hb
          go_wp2
          go_roundw
          case rel => exact ⟨k + 1, by omega, by go_num, ho4, hb3⟩
          case measure => simp [intOf]; omega
        · obtain rfl : k = s.size + 1 - m := by omega
          rw [← HE.out] at ho
          obtain ⟨k, hkk⟩ : ∃ k, k = s.size + 1 - m := ⟨_, rfl⟩
          have hlt2 : (s.size : Int) < (k : Int) + (m : Int) := by omega
          rw [← hkk]
          go_wp2
          go_ret
          exact ⟨_, rfl, ho, hb⟩
  · have hnd : decide (1 ≤ n ∧ n ≤ 16) = false := decide_eq_false hn
    have e : rollsT s n = [] := by unfold rollsT; rw [if_neg (fun h => hn h.1)]
    rw [e]
    clear e
    go_enter Try.func43, Try.ntmps43
    go_wp2_with fail
    refine (l1In_any _ _ _ _).mono ?_
    rintro e w1 ⟨rfl, rfl⟩
    rw [hnd]
    go_wp2
    go_ret
    exact ⟨_, rfl, World.ownsRow_lit w #[] 0 (Nat.le_refl _) (Nat.zero_le _) rfl, (Below.refl _ _).alloc (Nat.le_refl _) _⟩

end Go.Proofs.Ytndecefcnalgdaa
