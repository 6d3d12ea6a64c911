/- CONTRACTS: the specification's blocks: l1In, l1Min, l9Blocks, Blocks. -/
import Derived.Test.YtdiammehnakchacDeltaMath
import Derived.Laws.MakeOwn
namespace Go.Proofs.Ytdiammehnakchac
open Go.RowKit
set_option linter.unusedVariables false
theorem one_txt9 (w : World) (u : Value) (t : TypeId) : ∀ j x, ([u] : List Value)[j]? = some x → (w.alloc (.cells #[u] t)).cell? ((⟨w.heap.size, 0, none⟩ : Addr).add j) = some x := by
  intro j x hj
  match j, hj with
  | 0, hj => simp at hj; subst hj; simp [Addr.add]
theorem l1In9_any (a lo hi : Int) (w : World) : Calls Try.prog 33 #[.int .i64 a, .int .i64 lo, .int .i64 hi] w fun e w' => e = .returned (.bool (decide (lo ≤ a) && decide (a ≤ hi))) ∧ w' = w := by
  by_cases h : lo ≤ a
  · go_enter Try.func33, Try.ntmps33
    go_wp2
    go_ret
    exact ⟨by simp [h], rfl⟩
  · go_enter Try.func33, Try.ntmps33
    go_wp2
    go_ret
    exact ⟨by simp; omega, rfl⟩
theorem l1Min9_any (a b : Int) (w : World) : Calls Try.prog 40 #[.int .i64 a, .int .i64 b] w fun e w' => e = .returned (.int .i64 (if a < b then a else b)) ∧ w' = w := by
  by_cases h : a < b
  · rw [if_pos h]
    go_enter Try.func40, Try.ntmps40
    go_wp2
    go_ret
    exact ⟨rfl, rfl⟩
  · rw [if_neg h]
    go_enter Try.func40, Try.ntmps40
    go_wp2
    go_ret
    exact ⟨rfl, rfl⟩
set_option maxHeartbeats 2000000 in
set_option maxRecDepth 100000 in
theorem l9Blocks_any (s : ByteArray) (n : Nat) (w : World) (hn1 : 1 ≤ n) (hn2 : n ≤ 100) (hs : s.size ≤ 20000) :
    Calls Try.prog 34 #[.string s, .int .i64 (n : Int)] w fun e w' => ∃ v, e = .returned v ∧ w'.ownsRow w.heap.size 9 1 v (blkN s n) (cellsS (blksK s n (blkN s n))) ∧ Below w.heap.size w w' := by
  obtain ⟨i0, hi, hz0, hz1, hz2⟩ := info_parts Try.infoS
  have HK : Hid (∀ k, k < blkN s n ↔ k * n < s.size) := fun k => blkN_lt hn1
  have HS : Hid (∀ k, blksK s n (k + 1) = blksK s n k ++ [blkT s n k]) := fun k => blksK_succ s n k
  have HL : Hid (∀ k, (blksK s n k).length = k) := fun k => blksK_len s n k
  have hN : blkN s n ≤ 20000 := Nat.le_trans (blkN_le hn1) hs
  have HE : Hid (∀ k : Nat, k * n < s.size → (s.extract (k * n) (if s.size < k * n + n then s.size else k * n + n)) = blkT s n k) := fun k hk => by
    show _ = _
    unfold blkT
    congr 1
    split <;> omega
  have ho0 : (w.alloc (.cells #[] 9)).ownsRow w.heap.size 9 1 (.slice (some ⟨w.heap.size, 0, none⟩) 0 0) 0 (cellsS (blksK s n 0)) := World.ownsRow_lit (base := w.heap.size) (e := 9) (size := 1) w #[] 0 (Nat.le_refl _) (Nat.zero_le _) rfl
  have hB0 := (Below.refl w.heap.size w).alloc (Nat.le_refl _) (.cells #[] 9)
  generalize blkN s n = N at HK hN ⊢
  generalize hBK : blksK s n = BK at HS HL ho0 ⊢
  clear hBK
  go_enter Try.func34, Try.ntmps34
  go_wp2
  go_loopw [5, 6] (fun v i wr => ∃ k m : Nat, k ≤ N ∧ i = .int .i64 (m : Int) ∧ Hid (m = k * n) ∧ m ≤ 20100 ∧ wr.ownsRow w.heap.size 9 1 v k (cellsS (BK k)) ∧ Below w.heap.size w wr) (fun _ i _ => s.size + 200 - (intOf i).toNat)
  case atStart => exact ⟨0, 0, Nat.zero_le _, rfl, (by show 0 = 0 * n; omega), by omega, ho0, hB0⟩
  case round =>
    rename World => wr
    obtain ⟨k, m, hk, rfl, hm, hmb, ho, hb⟩ := hrel
    clear ho0 hB0
    have hsb := hb.size
    by_cases hlt : m < s.size
    · have hkN : k < N := (HK.out k).2 (by rw [← hm.out]; exact hlt)
      have HX := Lib.hid (HE.out k (by rw [← hm.out]; exact hlt))
      have hsl : Hid (∀ W' : World, (Instr.slice 9 (.string s) (some (.int .i64 (m : Int))) (some (.int .i64 (if (s.size : Int) < (m : Int) + (n : Int) then (s.size : Int) else (m : Int) + (n : Int)))) none).run Try.prog W' = .ok (.string (blkT s n k)) W') := fun W' => by
        rw [run_slice_string _ 9 s .i64 .i64 _ _ Try.underlying9 (by omega) (by split <;> omega) (by split <;> omega)]
        rw [show ((m : Int)).toNat = m by omega, ← HX.out, hm.out]
        congr 2
        congr 1
        split <;> split <;> omega
      have HS2 := Lib.hid (HS.out k)
      have hl := HL.out k
      have HM2 : Hid (m + n = (k + 1) * n) := by
        show _ = _
        rw [Nat.add_mul, ← hm.out]; omega
      obtain ⟨x, hx⟩ : ∃ x, x = blkT s n k := ⟨_, rfl⟩
      rw [← hx] at hsl HS2
      obtain ⟨q, hq⟩ : ∃ q, q = (if (s.size : Int) < (m : Int) + (n : Int) then (s.size : Int) else (m : Int) + (n : Int)) := ⟨_, rfl⟩
      rw [← hq] at hsl
      have hq0 : q ≤ s.size ∧ 0 ≤ q ∧ (m : Int) ≤ q := by rw [hq]; split <;> omega
      have HQ : Hid (∀ W, Calls Try.prog 40 #[.int .i64 (s.size : Int), .int .i64 ((m : Int) + (n : Int))] W fun e w' => e = .returned (.int .i64 q) ∧ w' = W) := fun W => by
        rw [hq]; exact l1Min9_any _ _ W
      have hsl2 := hsl.out
      clear hx HX hq
      go_wp2_with fail
      refine (HQ.out _).mono ?_
      rintro e w2 ⟨rfl, rfl⟩
      go_wp2_with (at_builtin; refine wpList_append_own _ rfl _ _ 34 rfl w.heap.size 9 i0 (.string ⟨#[]⟩) 1 16 Try.underlying34 hi hz0 hz1 hz2 rfl (by decide) _ _ _ rfl (ho.alloc _) ⟨w2.heap.size, 0, none⟩ 1 1 [.string x] rfl rfl ?c1 ?c2 ?c3 ?c4 ?c5 ?_)
      case c1 => exact one_txt9 w2 _ _
      case c2 => intro u hu; rw [List.mem_singleton.1 hu]; rfl
      case c3 => unfold maxLen; omega
      case c4 => omega
      case c5 => simp; omega
      intro v3 w3 ho3 hg3 _
      have hb3 : Below w.heap.size w w3 := (hb.alloc (by omega) _).grown hg3 (by simp; omega) (fun k hk => (ho.lt k hk).1)
      have ho4 : w3.ownsRow w.heap.size 9 1 v3 (k + 1) (cellsS (BK (k + 1))) := by rw [HS2.out]; simpa [cellsS] using ho3
      clear ho3 hg3 ho hb hsl hsl2
      go_wp2
      go_roundw
      case rel => exact ⟨k + 1, m + n, by omega, by go_num, HM2.out, by omega, ho4, hb3⟩
      case measure => simp [intOf]; omega
    · have hkN : k = N := by
        rcases Nat.lt_or_ge k N with h | h
        · have := (HK.out k).1 h
          rw [← hm.out] at this
          omega
        · omega
      subst hkN
      go_wp2
      go_ret
      exact ⟨_, rfl, ho, hb⟩
set_option maxHeartbeats 1000000 in
set_option maxRecDepth 100000 in
theorem specBlocks_any (s : ByteArray) (n : Int) (w : World) :
    Calls Try.prog 15 #[.string s, .int .i64 n] w fun e w' => ∃ v, e = .returned v ∧ w'.ownsRow w.heap.size 9 1 v (blocksT s n).length (cellsS (blocksT s n)) ∧ Below w.heap.size w w' := by
  have ho0 : (w.alloc (.cells #[] 9)).ownsRow w.heap.size 9 1 (.slice (some ⟨w.heap.size, 0, none⟩) 0 0) 0 (cellsS []) := World.ownsRow_lit (base := w.heap.size) (e := 9) (size := 1) w #[] 0 (Nat.le_refl _) (Nat.zero_le _) rfl
  have hB0 := (Below.refl w.heap.size w).alloc (Nat.le_refl _) (.cells #[] 9)
  have hin := l1In9_any n 1 100 w
  by_cases hn : okN9 n
  · have e1 : (decide (1 ≤ n) && decide (n ≤ 100)) = true := by simp [hn.1, hn.2]
    rw [e1] at hin
    by_cases hs : s.size ≤ 20000
    · have e : blocksT s n = blksK s n.toNat (blkN s n.toNat) := by unfold blocksT; rw [if_pos ⟨hn, hs⟩]
      rw [e, blksK_len]
      obtain ⟨m, rfl⟩ : ∃ m : Nat, n = m := ⟨n.toNat, by have := hn.1; omega⟩
      rw [Int.toNat_natCast]
      have hcall := l9Blocks_any s m w (by have := hn.1; omega) (by have := hn.2; omega) hs
      have hsI : ¬ (20000 : Int) < (s.size : Int) := by omega
      clear e ho0 hB0 e1
      go_enter Try.func15, Try.ntmps15
      go_wp2_with fail
      refine hin.mono ?_
      rintro e w2 ⟨rfl, rfl⟩
      go_wp2_with fail
      refine hcall.mono ?_
      rintro e w3 ⟨v, rfl, ho, hb⟩
      go_wp2
      go_ret
      exact ⟨_, rfl, ho, hb⟩
    · have e : blocksT s n = [] := by unfold blocksT; rw [if_neg (fun h => hs h.2)]
      rw [e]
      have hsI : (20000 : Int) < (s.size : Int) := by omega
      clear e
      go_enter Try.func15, Try.ntmps15
      go_wp2_with fail
      refine hin.mono ?_
      rintro e w2 ⟨rfl, rfl⟩
      go_wp2
      go_ret
      exact ⟨_, rfl, ho0, hB0⟩
  · have e1 : (decide (1 ≤ n) && decide (n ≤ 100)) = false := by
      rw [← Bool.decide_and]
      exact decide_eq_false hn
    rw [e1] at hin
    have e : blocksT s n = [] := by unfold blocksT; rw [if_neg (fun h => hn h.1)]
    rw [e]
    clear e
    go_enter Try.func15, Try.ntmps15
    go_wp2_with fail
    refine hin.mono ?_
    rintro e w2 ⟨rfl, rfl⟩
    go_wp2
    go_ret
    exact ⟨_, rfl, ho0, hB0⟩
end Go.Proofs.Ytdiammehnakchac
