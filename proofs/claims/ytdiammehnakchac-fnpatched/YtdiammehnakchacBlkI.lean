/- CONTRACTS: the program's hasBlocks, blocksOf (a closure over three boxes), its teller, Blocks. -/
import Derived.Test.YtdiammehnakchacBlkS
import Derived.Test.YtdiammehnakchacClone
import Derived.Deep.LoopGhost
import Derived.Deep.RegionHeld
namespace Go.Proofs.Ytdiammehnakchac
open Go.RowKit
set_option linter.unusedVariables false
theorem hasBlocks_any (s : ByteArray) (n : Int) (w : World) : Calls Try.prog 25 #[.string s, .int .i64 n] w fun e w' => e = .returned (.bool (decide (okN9 n ∧ s.size ≤ 20000))) ∧ w' = w := by
  by_cases h1 : 1 ≤ n
  · by_cases h2 : n ≤ 100
    · have e : decide (okN9 n ∧ s.size ≤ 20000) = decide ((s.size : Int) ≤ 20000) := by
        rw [decide_eq_decide]
        exact ⟨fun h => by omega, fun h => ⟨⟨h1, h2⟩, by omega⟩⟩
      rw [e]
      clear e
      go_enter Try.func25, Try.ntmps25
      go_wp2
      go_ret
      exact ⟨by simp, rfl⟩
    · have e : decide (okN9 n ∧ s.size ≤ 20000) = false := decide_eq_false (fun h => h2 h.1.2)
      rw [e]
      clear e
      go_enter Try.func25, Try.ntmps25
      go_wp2
      go_ret
      exact ⟨by simp, rfl⟩
  · have e : decide (okN9 n ∧ s.size ≤ 20000) = false := decide_eq_false (fun h => h1 h.1.1)
    rw [e]
    clear e
    go_enter Try.func25, Try.ntmps25
    go_wp2
    go_ret
    exact ⟨by simp, rfl⟩
/-- the teller of the blocks, its boxes from b on -/
abbrev telV (b : Nat) : Value := .func (.func 36) #[] #[.pointer (some ⟨b + 2, 0, none⟩), .pointer (some ⟨b + 1, 0, none⟩), .pointer (some ⟨b, 0, none⟩)]
def Tel (s : ByteArray) (n b : Nat) (w : World) : Prop := b + 2 < w.heap.size ∧ w.cell? ⟨b, 0, none⟩ = some (.string s) ∧ w.cell? ⟨b + 1, 0, none⟩ = some (.int .i64 (n : Int)) ∧ w.cell? ⟨b + 2, 0, none⟩ = some (.int .i64 (s.size : Int))
theorem tel_below {s : ByteArray} {n b : Nat} {w w' : World} (h : Tel s n b w) (hb : Below w.heap.size w w') : Tel s n b w' := by
  obtain ⟨h0, h1, h2, h3⟩ := h
  exact ⟨Nat.lt_of_lt_of_le h0 hb.size, (hb.cell (p := ⟨b, 0, none⟩) (by show b < _; omega)).trans h1, (hb.cell (p := ⟨b + 1, 0, none⟩) (by show b + 1 < _; omega)).trans h2, (hb.cell (p := ⟨b + 2, 0, none⟩) (by show b + 2 < _; omega)).trans h3⟩
/-- what the teller tells -/
def telT (s : ByteArray) (n : Nat) (d : Int) : Option ByteArray := if 0 ≤ d ∧ d < (blkN s n : Int) then some (blkT s n d.toNat) else none
theorem telT_at {s : ByteArray} {n k : Nat} (h : k < blkN s n) : telT s n (k : Int) = some (blkT s n k) := by
  unfold telT
  rw [if_pos ⟨by omega, by omega⟩, Int.toNat_natCast]
theorem telT_no {s : ByteArray} {n : Nat} {d : Int} (h : d < 0 ∨ (blkN s n : Int) ≤ d) : telT s n d = none := by
  unfold telT
  rw [if_neg (by omega)]
abbrev telR (o : Option ByteArray) : Value := .tuple #[.string (o.getD ⟨#[]⟩), .bool o.isSome]
set_option maxHeartbeats 1000000 in
set_option maxRecDepth 100000 in
theorem teller_any (s : ByteArray) (n b : Nat) (d : Int) (w : World) (ht : Tel s n b w) (hn1 : 1 ≤ n) (hn2 : n ≤ 100) (hs : s.size ≤ 20000) :
    Calls Try.prog 36 #[.int .i64 d, .pointer (some ⟨b + 2, 0, none⟩), .pointer (some ⟨b + 1, 0, none⟩), .pointer (some ⟨b, 0, none⟩)] w fun e w' => e = .returned (telR (telT s n d)) ∧ w' = w := by
  obtain ⟨h0, c0, c1, c2⟩ := ht
  by_cases hneg : d < 0
  · rw [telT_no (Or.inl hneg)]
    go_enter Try.func36, Try.ntmps36
    go_wp2
    go_ret2
    exact ⟨rfl, rfl⟩
  obtain ⟨k, rfl⟩ : ∃ k : Nat, d = k := ⟨d.toNat, by omega⟩
  have hN : blkN s n ≤ 20000 := Nat.le_trans (blkN_le hn1) hs
  have hq : ((s.size : Int) + (n : Int) - 1) / (n : Int) = (blkN s n : Int) := by
    unfold blkN
    rw [show (s.size : Int) + (n : Int) - 1 = ((s.size + n - 1 : Nat) : Int) by omega]
    exact (Int.natCast_ediv _ _).symm
  have hn0 : (n : Int) ≠ 0 := by omega
  by_cases hlt : k < blkN s n
  · rw [telT_at hlt]
    have hkn := (blkN_lt hn1).1 hlt
    have hmn : min (k * n + n) s.size ≤ s.size := by omega
    have hX : blkT s n k = s.extract (k * n) (min (k * n + n) s.size) := rfl
    rw [hX]
    have hmul : (k : Int) * (n : Int) = ((k * n : Nat) : Int) := by rw [Int.natCast_mul]
    obtain ⟨m, hm⟩ : ∃ m, m = k * n := ⟨_, rfl⟩
    rw [← hm] at hkn hmn hmul ⊢
    obtain ⟨N, hNN⟩ : ∃ N, N = blkN s n := ⟨_, rfl⟩
    rw [← hNN] at hq hN hlt
    have hge : ¬ (N : Int) ≤ (k : Int) := by omega
    have hmn2 : min ((m : Int) + (n : Int)) (s.size : Int) = ((min (m + n) s.size : Nat) : Int) := by omega
    obtain ⟨E, hE⟩ : ∃ E, E = min (m + n) s.size := ⟨_, rfl⟩
    have hmE : m ≤ E := by omega
    rw [← hE] at hmn hmn2 ⊢
    have hsl : ∀ W' : World, (Instr.slice 9 (.string s) (some (.int .i64 (m : Int))) (some (.int .i64 (E : Int))) none).run Try.prog W' = .ok (.string (s.extract m E)) W' := fun W' => by
      rw [run_slice_string _ 9 s .i64 .i64 _ _ Try.underlying9 (by omega) (by omega) (by omega)]
      rw [Int.toNat_natCast, Int.toNat_natCast]
    obtain ⟨x, hx⟩ : ∃ x, x = s.extract m E := ⟨_, rfl⟩
    rw [← hx] at hsl ⊢
    clear hX hm hNN hE hx hneg
    go_enter Try.func36, Try.ntmps36
    go_wp2
    go_ret2
    exact ⟨rfl, rfl⟩
  · rw [telT_no (Or.inr (by omega))]
    obtain ⟨N, hNN⟩ : ∃ N, N = blkN s n := ⟨_, rfl⟩
    rw [← hNN] at hq hN hlt
    have hge : (N : Int) ≤ (k : Int) := by omega
    clear hNN hneg
    go_enter Try.func36, Try.ntmps36
    go_wp2
    go_ret2
    exact ⟨rfl, rfl⟩
set_option maxRecDepth 100000 in
theorem blocksOf_any (s : ByteArray) (n : Nat) (w : World) :
    Calls Try.prog 29 #[.string s, .int .i64 (n : Int)] w fun e w' => e = .returned (telV w.heap.size) ∧ Tel s n w.heap.size w' ∧ Below w.heap.size w w' := by
  have hb := (((Below.refl w.heap.size w).alloc (Nat.le_refl _) (.cells #[.string s] 9)).alloc (by simp) (.cells #[.int .i64 (n : Int)] 2)).alloc (by simp; omega) (.cells #[.int .i64 (s.size : Int)] 2)
  go_enter Try.func29, Try.ntmps29
  go_wp2
  go_ret
  have e0 := heap_alloc_new w (.cells #[.string s] 9)
  have e1 := heap_alloc_new (w.alloc (.cells #[.string s] 9)) (.cells #[.int .i64 (n : Int)] 2)
  have e2 := heap_alloc_new ((w.alloc (.cells #[.string s] 9)).alloc (.cells #[.int .i64 (n : Int)] 2)) (.cells #[.int .i64 (s.size : Int)] 2)
  have z1 : (w.alloc (.cells #[.string s] 9)).heap.size = w.heap.size + 1 := World.size_alloc _ _
  have z2 : ((w.alloc (.cells #[.string s] 9)).alloc (.cells #[.int .i64 (n : Int)] 2)).heap.size = w.heap.size + 2 := by rw [World.size_alloc, z1]
  rw [z1] at e1
  rw [z2] at e2
  have f0 := (Below.heap_alloc _ (.cells #[.int .i64 (s.size : Int)] 2) w.heap.size (by rw [z2]; omega)).trans ((Below.heap_alloc _ (.cells #[.int .i64 (n : Int)] 2) w.heap.size (by rw [z1]; omega)).trans e0)
  have f1 := (Below.heap_alloc _ (.cells #[.int .i64 (s.size : Int)] 2) (w.heap.size + 1) (by rw [z2]; omega)).trans e1
  refine ⟨by simp, ⟨by rw [World.size_alloc, z2]; omega, ?_, ?_, ?_⟩, hb⟩
  · rw [cell_of_row _ w.heap.size 0 _ _ _ f0]; rfl
  · rw [cell_of_row _ (w.heap.size + 1) 0 _ _ _ f1]; rfl
  · rw [cell_of_row _ (w.heap.size + 2) 0 _ _ _ e2]; rfl
set_option maxHeartbeats 2000000 in
set_option maxRecDepth 100000 in
theorem implBlocks_any (s : ByteArray) (n : Int) (w : World) :
    Calls Try.prog 10 #[.string s, .int .i64 n] w fun e w' => ∃ v, e = .returned v ∧ w'.ownsRow w.heap.size 9 1 v (blocksT s n).length (cellsS (blocksT s n)) ∧ Below w.heap.size w w' := by
  obtain ⟨i0, hi, hz0, hz1, hz2⟩ := info_parts Try.infoS
  have hhb := hasBlocks_any s n w
  have hnil : ∀ W : World, w.heap.size ≤ W.heap.size → W.ownsRow w.heap.size 9 1 (.slice none 0 0) 0 (cellsS []) := fun W h => ⟨by simp [cellsS], Or.inl ⟨rfl, rfl⟩⟩
  by_cases hok : okN9 n ∧ s.size ≤ 20000
  · rw [decide_eq_true hok] at hhb
    obtain ⟨m, rfl⟩ : ∃ m : Nat, n = m := ⟨n.toNat, by have := hok.1.1; omega⟩
    have hn1 : 1 ≤ m := by have := hok.1.1; omega
    have hn2 : m ≤ 100 := by have := hok.1.2; omega
    have e : blocksT s m = blksK s m (blkN s m) := by unfold blocksT; rw [if_pos hok, Int.toNat_natCast]
    rw [e, blksK_len]
    have hs := hok.2
    have hN : blkN s m ≤ 20000 := Nat.le_trans (blkN_le hn1) hs
    have HS : Hid (∀ k, blksK s m (k + 1) = blksK s m k ++ [blkT s m k]) := fun k => blksK_succ s m k
    have HT : Hid (∀ k, k < blkN s m → telT s m (k : Int) = some (blkT s m k)) := fun k h => telT_at h
    have HTN : Hid (telT s m (blkN s m : Int) = none) := telT_no (Or.inr (by omega))
    have HTL := Lib.hid (fun (d : Int) (W : World) (h : Tel s m w.heap.size W) => teller_any s m w.heap.size d W h hn1 hn2 hs)
    have HZ : Hid (∀ k, (blkT s m k).size ≤ 100) := fun k => Nat.le_trans (blkT_le s m k) hn2
    have hbo := blocksOf_any s m w
    have HB0 : Hid (blksK s m 0 = []) := rfl
    generalize blkN s m = N at HT HTN hN ⊢
    generalize hBK : blksK s m = BK at HS HB0 ⊢
    generalize hBT : blkT s m = BT at HS HT HZ
    clear hBK hBT e hok
    go_enter Try.func10, Try.ntmps10
    go_wp2_with fail
    refine hhb.mono ?_
    rintro e w1 ⟨rfl, rfl⟩
    go_wp2_with fail
    refine hbo.mono ?_
    rintro e w1 ⟨rfl, htel, hb1⟩
    have ho1 : w1.ownsRow w1.heap.size 9 1 (.slice none 0 0) 0 (cellsS (BK 0)) := by rw [HB0.out]; exact ⟨by simp [cellsS], Or.inl ⟨rfl, rfl⟩⟩
    have HBW := Lib.hid hb1
    have hbb := Below.refl w1.heap.size w1
    clear hhb hbo hnil HB0 hb1
    go_wp2
    go_loopg [5] N (fun f v wr => ∃ k : Nat, k + f = N ∧ wr.ownsRow w1.heap.size 9 1 v k (cellsS (BK k)) ∧ Below w1.heap.size w1 wr)
    case atStart => exact ⟨0, by omega, ho1, hbb⟩
    case round =>
      rename World => wr
      obtain ⟨k, hk, ho, hb⟩ := hrel
      clear ho1 hbb
      have hsb := hb.size
      have hte := tel_below htel hb
      obtain ⟨ao, cap, hv⟩ := owns_slice ho
      subst hv
      by_cases hlt : k < N
      · have hcall := HTL.out (k : Int) wr hte
        rw [HT.out k hlt] at hcall
        have hz := HZ.out k
        have HS2 := Lib.hid (HS.out k)
        obtain ⟨x, hx⟩ : ∃ x, x = BT k := ⟨_, rfl⟩
        rw [← hx] at hcall hz HS2
        have HTEL := Lib.hid htel
        clear hx hte htel
        go_wp2_with fail
        refine hcall.mono ?_
        rintro e w2 ⟨rfl, rfl⟩
        clear hcall
        go_wp2_with fail
        refine (clone_any x _ (by omega)).mono ?_
        rintro e w3 ⟨rfl, hb3⟩
        have ho3 := owns_below ho hb3
        have hB3 := hb.trans (hb3.mono hsb)
        have hs3 := hB3.size
        clear ho hb hb3
        go_wp2_with (at_builtin; refine wpList_append_own _ rfl _ _ 34 rfl w1.heap.size 9 i0 (.string ⟨#[]⟩) 1 16 Try.underlying34 hi hz0 hz1 hz2 rfl (by decide) _ _ _ rfl (ho3.alloc _) ⟨w3.heap.size, 0, none⟩ 1 1 [.string x] rfl rfl ?c1 ?c2 ?c3 ?c4 ?c5 ?_)
        case c1 => exact one_txt9 w3 _ _
        case c2 => intro u hu; rw [List.mem_singleton.1 hu]; rfl
        case c3 => unfold maxLen; omega
        case c4 => omega
        case c5 => simp; omega
        intro v4 w4 ho4 hg4 _
        have hB4 : Below w1.heap.size w1 w4 := (hB3.alloc (by omega) _).grown hg4 (by simp; omega) (fun k hk => (ho3.lt k hk).1)
        have ho5 : w4.ownsRow w1.heap.size 9 1 v4 (k + 1) (cellsS (BK (k + 1))) := by rw [HS2.out]; simpa [cellsS] using ho4
        clear ho4 hg4 ho3 hB3
        go_wp2
        go_roundg (gk - 1)
        case rel => exact ⟨k + 1, by omega, ho5, hB4⟩
        case measure => omega
      · obtain rfl : k = N := by omega
        have hcall := HTL.out (k : Int) wr hte
        rw [HTN.out] at hcall
        have HO := Lib.hid (owns_base ho HBW.out.size)
        have HB := Lib.hid (HBW.out.trans (hb.mono HBW.out.size))
        clear ho hb hte htel
        go_wp2_with fail
        refine hcall.mono ?_
        rintro e w2 ⟨rfl, rfl⟩
        clear hcall
        go_wp2
        go_ret
        exact ⟨_, rfl, HO.out, HB.out⟩
  · rw [decide_eq_false hok] at hhb
    have e : blocksT s n = [] := by unfold blocksT; rw [if_neg hok]
    rw [e]
    have ho := hnil w (Nat.le_refl _)
    clear e hok hnil
    go_enter Try.func10, Try.ntmps10
    go_wp2_with fail
    refine hhb.mono ?_
    rintro e w1 ⟨rfl, rfl⟩
    go_wp2
    go_ret
    exact ⟨_, rfl, ho, Below.refl _ _⟩
end Go.Proofs.Ytdiammehnakchac
