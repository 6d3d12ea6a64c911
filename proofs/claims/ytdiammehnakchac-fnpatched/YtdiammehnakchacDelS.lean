/- CONTRACT: the specification's Delta. -/
import Derived.Test.YtdiammehnakchacBlkS
import Derived.Test.YtdiammehnakchacBitA
import Derived.Test.YtdiammehnakchacDig
import Derived.Deep.RegionHeld
import Derived.Deep.QuietTactic
import Derived.Deep.LoopGhost
namespace Go.Proofs.Ytdiammehnakchac
open Go.RowKit
set_option linter.unusedVariables false
theorem owns_apart9 {w w' : World} {b1 b2 : Nat} {e1 e2 : TypeId} {s1 s2 : Nat} {v u : Value} {n m : Nat} {xs ys : List Value} (h : w.ownsRow b1 e1 s1 v n xs) (k : w.ownsRow b2 e2 s2 u m ys) (hne : e1 ≠ e2) (hg : w.grownBy w' u.ownBlock) : w'.ownsRow b1 e1 s1 v n xs :=
  owns_grown h hg fun g hk hv => by
    rcases h.2 with ⟨rfl, _⟩ | ⟨g1, c1, cur1, rfl, _, hh1, _⟩
    · cases hv
    · rcases k.2 with ⟨rfl, _⟩ | ⟨g2, c2, cur2, rfl, _, hh2, _⟩
      · cases hk
      · obtain rfl : g1 = g := Option.some.inj hv
        obtain rfl : g2 = g1 := Option.some.inj hk
        rw [hh1] at hh2
        simp only [Option.some.injEq, Obj.cells.injEq] at hh2
        exact hne hh2.2.1
theorem owns_sl9 {w : World} {base : Nat} {e : TypeId} {v : Value} {n : Nat} {xs : List Value} (h : w.ownsRow base e 2 v n xs) : ∃ ao cap, v = .slice ao n cap := by
  rcases h.2 with ⟨rfl, h0⟩ | ⟨g, cap, cur, rfl, _⟩
  · exact ⟨none, 0, by rw [h0]⟩
  · exact ⟨_, cap, rfl⟩
theorem owns_hd9 {w : World} {base : Nat} {e : TypeId} {v : Value} {n : Nat} {xs : List Value} (h : w.ownsRow base e 2 v n xs) (hn : n ≠ 0) : ∃ g cap, v = .slice (some ⟨g, 0, none⟩) n cap := by
  rcases h.2 with ⟨rfl, h0⟩ | ⟨g, cap, cur, rfl, _⟩
  · exact absurd h0 hn
  · exact ⟨g, cap, rfl⟩
/-- what ends with no text of its own -/
def NoTail (out : List Bl) : Prop := ∀ b, out.getLast? = some b → b.1 ≠ -1
theorem noTail_nil : NoTail [] := fun b h => by cases h
theorem noTail_blk (out : List Bl) (k : Nat) : NoTail (out ++ [blkB k]) := fun b h => by
  rw [List.getLast?_append] at h
  obtain rfl : blkB k = b := by simpa using h
  unfold blkB
  simp only
  omega
theorem with_none (out : List Bl) (s : ByteArray) (p : Nat) : withT out (s.extract p p) = out := by
  unfold withT
  rw [if_pos (by rw [ByteArray.size_extract]; omega)]
theorem with_some {out : List Bl} {s : ByteArray} {fr p : Nat} (h : fr < p) (hp : p ≤ s.size) : withT out (s.extract fr p) = out ++ [(-1, s.extract fr p)] := by
  unfold withT
  rw [if_neg (by rw [ByteArray.size_extract]; omega)]
theorem ext_more {s : ByteArray} {fr p : Nat} (h : fr ≤ p) (hp : p < s.size) : s.extract fr p ++ s.extract p (p + 1) = s.extract fr (p + 1) := by
  have e : ∀ a b : ByteArray, a.data = b.data → a = b := fun a b h => by cases a; cases b; simp only at h; rw [h]
  rw [ByteArray.extract_append_extract]
  congr 1
  · omega
  · omega
/-- found so far: none of the first i, or the first one -/
def FndS (old fresh : ByteArray) (n p i : Nat) (F : Int) : Prop := (F < 0 ∧ F = -1 ∧ ∀ j, j < i → j < old.size / n → p + n ≤ fresh.size → ¬ blkT old n j = fresh.extract p (p + n)) ∨ (∃ j : Nat, F = (j : Int) ∧ j < i ∧ foundT old fresh n p = some j)
theorem whole_lt {s : ByteArray} {n k : Nat} (hn : 1 ≤ n) : (k * n ≤ s.size ∧ (blkT s n k).size = n) ↔ k < s.size / n := by
  rw [Nat.lt_div_iff_mul_lt hn]
  have e : n * k = k * n := Nat.mul_comm _ _
  constructor
  · intro h
    rw [blkT_size s n k h.1] at h
    omega
  · intro h
    refine ⟨by omega, ?_⟩
    rw [blkT_size s n k (by omega)]
    omega
theorem blC_last (out : List Bl) (d : Int) (t x : ByteArray) : (blC (out ++ [(d, t)])).set (out.length * 2 + 1) (.string x) = blC (out ++ [(d, x)]) := by
  rw [blC_append, blC_append, List.set_append_right _ _ (by rw [blC_len]; omega), blC_len, show out.length * 2 + 1 - out.length * 2 = 1 by omega]
  rfl
theorem last_at {out : List Bl} {k : Nat} (h : out.length = k + 1) : out.getLast? = some (out.getD k bl0) := by
  rw [List.getLast?_eq_getElem?, h, Nat.add_sub_cancel, List.getD, List.getElem?_eq_getElem (by omega)]
  rfl
set_option maxHeartbeats 8000000 in
set_option maxRecDepth 100000 in
theorem specDelta_any (old fresh : ByteArray) (n : Int) (w : World) :
    Calls Try.prog 13 #[.string old, .string fresh, .int .i64 n] w fun e w' => ∃ v, e = .returned v ∧ w'.ownsRow w.heap.size 54 2 v (deltaT old fresh n).length (blC (deltaT old fresh n)) ∧ Below w.heap.size w w' := by
  have hlit : (w.alloc (.cells #[] 54)).ownsRow w.heap.size 54 2 (.slice (some ⟨w.heap.size, 0, none⟩) 0 0) ([] : List Bl).length (blC []) := World.ownsRow_lit (base := w.heap.size) (e := 54) (size := 2) w #[] 0 (Nat.le_refl _) (Nat.zero_le _) rfl
  have hba := (Below.refl w.heap.size w).alloc (Nat.le_refl _) (.cells #[] 54)
  have hin := fun W => l1In9_any n 1 100 W
  by_cases hn : okN9 n
  rotate_left
  · have e1 : (decide (1 ≤ n) && decide (n ≤ 100)) = false := by
      rw [← Bool.decide_and]
      exact decide_eq_false hn
    rw [e1] at hin
    have e : deltaT old fresh n = [] := by unfold deltaT; rw [if_neg (fun h => hn h.1)]
    rw [e]
    clear e e1
    go_enter Try.func13, Try.ntmps13
    go_wp2_with fail
    refine (hin _).mono ?_
    rintro e w2 ⟨rfl, rfl⟩
    go_wp2
    go_ret
    exact ⟨_, rfl, hlit, hba⟩
  have e1 : (decide (1 ≤ n) && decide (n ≤ 100)) = true := by simp [hn.1, hn.2]
  rw [e1] at hin
  by_cases hos : old.size ≤ 20000
  rotate_left
  · have e : deltaT old fresh n = [] := by unfold deltaT; rw [if_neg (fun h => hos h.2.1)]
    rw [e]
    have hsI : (20000 : Int) < (old.size : Int) := by omega
    clear e e1
    go_enter Try.func13, Try.ntmps13
    go_wp2_with fail
    refine (hin _).mono ?_
    rintro e w2 ⟨rfl, rfl⟩
    go_wp2
    go_ret
    exact ⟨_, rfl, hlit, hba⟩
  have hsI : ¬ (20000 : Int) < (old.size : Int) := by omega
  by_cases hfs : fresh.size ≤ 20000
  rotate_left
  · have e : deltaT old fresh n = [] := by unfold deltaT; rw [if_neg (fun h => hfs h.2.2)]
    rw [e]
    have hfI : (20000 : Int) < (fresh.size : Int) := by omega
    clear e e1
    go_enter Try.func13, Try.ntmps13
    go_wp2_with fail
    refine (hin _).mono ?_
    rintro e w2 ⟨rfl, rfl⟩
    go_wp2
    go_ret
    exact ⟨_, rfl, hlit, hba⟩
  have hfI : ¬ (20000 : Int) < (fresh.size : Int) := by omega
  have e : deltaT old fresh n = dG old fresh n.toNat 0 0 [] := by unfold deltaT; rw [if_pos ⟨hn, hos, hfs⟩]
  rw [e]
  obtain ⟨m, rfl⟩ : ∃ m : Nat, n = m := ⟨n.toNat, by have := hn.1; omega⟩
  rw [Int.toNat_natCast]
  have hn1 : 1 ≤ m := by have := hn.1; omega
  have hn2 : m ≤ 100 := by have := hn.2; omega
  have hN : blkN old m ≤ 20000 := Nat.le_trans (blkN_le hn1) hos
  have hcall := l9Blocks_any old m (w.alloc (.cells #[] 54)) hn1 hn2 hos
  have HG : Hid (∀ k, k < blkN old m → (blksK old m (blkN old m)).getD k ByteArray.empty = blkT old m k) := fun k h => blksK_get h
  have HGL : Hid ((blksK old m (blkN old m)).length = blkN old m) := blksK_len _ _ _
  have HZ : Hid (∀ k, (blkT old m k).size ≤ 100) := fun k => Nat.le_trans (blkT_le old m k) hn2
  have HEND : Hid (∀ fr out, dG old fresh m fr fresh.size out = withT out (fresh.extract fr fresh.size)) := fun fr out => dG_end (by omega)
  have HHIT : Hid (∀ fr p k out, foundT old fresh m p = some k → dG old fresh m fr p out = dG old fresh m (p + m) (p + m) (withT out (fresh.extract fr p) ++ [blkB k])) := fun fr p k out h => dG_hit (by omega) h
  have HMISS : Hid (∀ fr p out, foundT old fresh m p = none → dG old fresh m fr p out = dG old fresh m fr (p + 1) out) := fun fr p out h => dG_miss2 (by omega) h
  have HF0 : Hid (∀ p F, F = -1 → FndS old fresh m p 0 F) := fun p F h => Or.inl ⟨by omega, h, fun j hj => absurd hj (Nat.not_lt_zero _)⟩
  have HFN : Hid (∀ p i F, F < 0 → i < blkN old m → FndS old fresh m p i F → (¬ (blkT old m i).size = m ∨ ¬ p + m ≤ fresh.size ∨ ¬ blkT old m i = fresh.extract p (p + m)) → FndS old fresh m p (i + 1) F) := fun p i F hF hi h hc => by
    rcases h with ⟨h1, h2, h3⟩ | ⟨j, h1, _⟩
    · refine Or.inl ⟨h1, h2, fun j hj hjM hp => ?_⟩
      by_cases e : j = i
      · subst e
        rcases hc with hc | hc | hc
        · exact absurd ((whole_lt hn1).2 hjM).2 hc
        · exact absurd hp hc
        · exact hc
      · exact h3 j (by omega) hjM hp
    · omega
  have HFY : Hid (∀ p i F, F < 0 → i < blkN old m → FndS old fresh m p i F → (blkT old m i).size = m → p + m ≤ fresh.size → blkT old m i = fresh.extract p (p + m) → FndS old fresh m p (i + 1) (i : Int)) := fun p i F hF hi h h1 h2 h3 => by
    have hiM : i < old.size / m := (whole_lt hn1).1 ⟨Nat.le_of_lt ((blkN_lt hn1).1 hi), h1⟩
    rcases h with ⟨_, _, h4⟩ | ⟨j, h4, _⟩
    · exact Or.inr ⟨i, rfl, by omega, found_is h2 hiM h3 (fun j hj => h4 j hj (by omega) h2)⟩
    · omega
  have HFE : Hid (∀ p F, FndS old fresh m p (blkN old m) F → F < 0 → foundT old fresh m p = none) := fun p F h hF => by
    rcases h with ⟨_, _, h3⟩ | ⟨j, h4, _⟩
    · exact found_no fun hp j hj => h3 j (by
        have h1 := (Nat.lt_div_iff_mul_lt hn1).1 hj
        have e : m * j = j * m := Nat.mul_comm _ _
        exact (blkN_lt hn1).2 (by omega)) hj hp
    · omega
  have HFX : Hid (∀ p i F, FndS old fresh m p i F → ¬ F < 0 → ∃ j : Nat, F = (j : Int) ∧ j < i ∧ foundT old fresh m p = some j) := fun p i F h hF => by
    rcases h with ⟨h1, _⟩ | h1
    · exact absurd h1 hF
    · exact h1
  have HFB : Hid (∀ p k, foundT old fresh m p = some k → p + m ≤ fresh.size) := fun p k h => (found_some h).1
  have HR0 : Hid (dG old fresh m 0 0 [] = dG old fresh m 0 0 []) := rfl
  generalize hRR : dG old fresh m 0 0 [] = R at HR0 ⊢
  have HR : Hid (dG old fresh m 0 0 [] = R) := hRR
  generalize hDG : dG old fresh m = DG at HEND HHIT HMISS HR
  generalize hFS : FndS old fresh m = FS at HF0 HFN HFY HFE HFX
  generalize hFT : foundT old fresh m = FT at HHIT HMISS HFE HFX HFB
  generalize hBL : blksK old m = BL at HG HGL hcall
  generalize hBX : blkT old m = BX at HG HZ HFN HFY
  generalize blkN old m = N at hcall hN HG HGL HFN HFY HFE
  generalize hbl : BL N = BB at hcall HG HGL
  have hza : (w.alloc (.cells #[] 54)).heap.size = w.heap.size + 1 := World.size_alloc _ _
  clear hRR hDG hFS hFT hBL hBX hbl e e1 HR0
  go_enter Try.func13, Try.ntmps13
  go_wp2_with fail
  refine (hin _).mono ?_
  rintro e w2 ⟨rfl, rfl⟩
  clear hin
  go_wp2_with fail
  refine hcall.mono ?_
  rintro e w3 ⟨vb, rfl, hob, hb3⟩
  have ho3 := owns_below hlit hb3
  have hB3 := hba.trans (hb3.mono (by omega))
  have hob3 := owns_base (b' := w.heap.size) hob (by omega)
  obtain ⟨ab, cb, hvb⟩ := owns_slice hob
  subst hvb
  have HBC : Hid (∀ (W : World), W.ownsRow w.heap.size 9 1 (.slice ab N cb) N (cellsS BB) → ∀ k, k < N → ∃ g, ab = some ⟨g, 0, none⟩ ∧ W.cell? ⟨g, k, none⟩ = some (.string (BX k))) := fun W hW k hk => by
    obtain ⟨g, c, hg, _⟩ := owns_head hW (by omega)
    simp only [Value.slice.injEq, true_and] at hg
    obtain ⟨rfl, rfl⟩ := hg
    have hla := HGL.out
    refine ⟨g, rfl, (hW.cellAt k (by omega)).trans ?_⟩
    rw [strs_get _ k (by omega), HG.out k hk]
  clear hcall hob hb3 hlit hba hza HG HGL
  have HNT0 := Lib.hid noTail_nil
  have HL0 : Hid (withT [] (fresh.extract 0 0) = []) := with_none [] fresh 0
  go_wp2
  go_loopg [7, 9] fresh.size (fun f v q wr => ∃ (fr p : Nat) (out : List Bl), q = .int .i64 (p : Int) ∧ fr ≤ p ∧ p + f = fresh.size ∧ (withT out (fresh.extract fr p)).length ≤ p ∧ Hid (NoTail out) ∧ Hid (DG fr p out = R) ∧ wr.ownsRow w.heap.size 54 2 v (withT out (fresh.extract fr p)).length (blC (withT out (fresh.extract fr p))) ∧ wr.ownsRow w.heap.size 9 1 (.slice ab N cb) N (cellsS BB) ∧ Below w.heap.size w wr)
  case atStart =>
    refine ⟨0, 0, [], rfl, Nat.le_refl _, by omega, ?_, HNT0.out, HR.out, ?_, hob3, hB3⟩
    · rw [HL0.out]; exact Nat.zero_le _
    · rw [HL0.out]; exact ho3
  case round =>
    rename World => wr
    obtain ⟨fr, p, out, rfl, hfp, hpf, hll, hnt, hR, ho, hob, hb⟩ := hrel
    clear ho3 hob3 hB3
    have hsb := hb.size
    by_cases hlt : p < fresh.size
    rotate_left
    · obtain rfl : p = fresh.size := by omega
      have HE := Lib.hid ((HEND.out fr out).symm.trans hR.out)
      rw [HE.out] at ho
      have HO := Lib.hid ho
      clear ho hob hR hll
      go_wp2
      go_ret
      exact ⟨_, rfl, HO.out, hb⟩
    have hltI : (p : Int) < (fresh.size : Int) := by omega
    go_wp2
    go_loopw [10, 11] (fun F i wq => ∃ (k : Nat) (z : Int), F = .int .i64 z ∧ i = .int .i64 (k : Int) ∧ k ≤ N ∧ -1 ≤ z ∧ z ≤ 20000 ∧ Hid (FS p k z) ∧ Hid (∃ d, wq = wr.drewN d)) (fun _ i _ => N - (intOf i).toNat)
    case atStart => exact ⟨0, -1, rfl, rfl, Nat.zero_le _, by omega, by omega, HF0.out p _ rfl, ⟨0, rfl⟩⟩
    case round =>
      rename World => wq
      obtain ⟨i, z, rfl, rfl, hi, hz1, hz2, hFd, hdr⟩ := hrel
      obtain ⟨dd, hdd⟩ := hdr.out
      subst hdd
      by_cases hz0 : z < 0
      · by_cases hiN : i < N
        · obtain ⟨g, rfl, hcell⟩ := HBC.out wr hob i hiN
          have hiI : (i : Int) < (N : Int) := by omega
          have hzx := HZ.out i
          have hNO := Lib.hid (HFN.out p i z hz0 hiN hFd.out)
          have hYE := Lib.hid (HFY.out p i z hz0 hiN hFd.out)
          obtain ⟨x, hx⟩ : ∃ x, x = BX i := ⟨_, rfl⟩
          rw [← hx] at hcell hzx hNO hYE
          clear hx hFd hdr
          by_cases hxm : x.size = m
          rotate_left
          · have hxb : ((x.size : Int) == (m : Int)) = false := beq_eq_false_iff_ne.2 (fun e => hxm (by omega))
            have HX1 := Lib.hid (hNO.out (Or.inl hxm))
            clear hNO hYE hxm
            go_wp2
            go_quiet (fail)
            go_wp2
            go_roundw
            case rel => exact ⟨i + 1, z, rfl, by go_num, by omega, hz1, hz2, HX1, ⟨_, rfl⟩⟩
            case measure => simp [intOf]; omega
          have hxb : ((x.size : Int) == (m : Int)) = true := by rw [hxm]; simp
          by_cases hpm : p + m ≤ fresh.size
          rotate_left
          · have hpI : ¬ (p : Int) + (m : Int) ≤ (fresh.size : Int) := by omega
            have HX1 := Lib.hid (hNO.out (Or.inr (Or.inl hpm)))
            clear hNO hYE hxm hpm
            go_wp2
            have hpd : decide ((p : Int) + (m : Int) ≤ (fresh.size : Int)) = false := decide_eq_false (by omega)
            go_quiet (fail)
            go_wp2
            go_roundw
            case rel => exact ⟨i + 1, z, rfl, by go_num, by omega, hz1, hz2, HX1, ⟨_, rfl⟩⟩
            case measure => simp [intOf]; omega
          have hpI : (p : Int) + (m : Int) ≤ (fresh.size : Int) := by omega
          have hsl : ∀ W' : World, (Instr.slice 9 (.string fresh) (some (.int .i64 (p : Int))) (some (.int .i64 ((p : Int) + (m : Int)))) none).run Try.prog W' = .ok (.string (fresh.extract p (p + m))) W' := fun W' => by
            rw [run_slice_string _ 9 fresh .i64 .i64 _ _ Try.underlying9 (by omega) (by omega) (by omega)]
            rw [show ((p : Int) + (m : Int)).toNat = p + m by omega, Int.toNat_natCast]
          have hYE2 : Hid (x = fresh.extract p (p + m) → FS p (i + 1) (i : Int)) := fun h => hYE.out hxm hpm h
          have hNO2 : Hid (¬ x = fresh.extract p (p + m) → FS p (i + 1) z) := fun h => hNO.out (Or.inr (Or.inr h))
          obtain ⟨y, hy⟩ : ∃ y, y = fresh.extract p (p + m) := ⟨_, rfl⟩
          rw [← hy] at hsl hYE2 hNO2
          clear hy hNO hYE hpm
          by_cases hxy : x = y
          rotate_left
          · have hne0 : ¬ y.toList = x.toList := fun h => hxy (same_of h).symm
            have hne : (y.toList == x.toList) = false := by simp [hne0]
            have HX1 := Lib.hid (hNO2.out hxy)
            clear hNO2 hYE2 hxy hne0
            go_wp2
            go_quiet (fail)
            go_wp2
            go_roundw
            case rel => exact ⟨i + 1, z, rfl, by go_num, by omega, hz1, hz2, HX1, ⟨_, rfl⟩⟩
            case measure => simp [intOf]; omega
          · subst hxy
            have hne : (x.toList == x.toList) = true := by simp
            have HX1 := Lib.hid (hYE2.out rfl)
            clear hNO2 hYE2
            go_wp2
            go_quiet (fail)
            go_wp2
            go_roundw
            case rel => exact ⟨i + 1, (i : Int), rfl, by go_num, by omega, by omega, by omega, HX1, ⟨_, rfl⟩⟩
            case measure => simp [intOf]; omega
        · obtain rfl : i = N := by omega
          have hiI : ¬ (i : Int) < (i : Int) := by omega
          have hft := HFE.out p z hFd.out hz0
          have HM := Lib.hid ((HMISS.out fr p out hft).symm.trans hR.out)
          have hz0' : ¬ 0 ≤ z := by omega
          have ho5 : (wr.drewN dd).ownsRow w.heap.size 54 2 _ _ _ := owns_below ho (below_drewN (Below.refl _ _) dd)
          have hob5 : (wr.drewN dd).ownsRow w.heap.size 9 1 _ _ _ := owns_below hob (below_drewN (Below.refl _ _) dd)
          have hb5 := below_drewN hb dd
          clear hFd hdr hft hR ho hob hb
          generalize wr.drewN dd = w5 at ho5 hob5 hb5 ⊢
          have hsb5 := hb5.size
          have hsl : ∀ W' : World, (Instr.slice 9 (.string fresh) (some (.int .i64 (p : Int))) (some (.int .i64 ((p : Int) + 1))) none).run Try.prog W' = .ok (.string (fresh.extract p (p + 1))) W' := fun W' => by
            rw [run_slice_string _ 9 fresh .i64 .i64 _ _ Try.underlying9 (by omega) (by omega) (by omega)]
            rw [show ((p : Int) + 1).toNat = p + 1 by omega, Int.toNat_natCast]
          have hus : (fresh.extract p (p + 1)).size = 1 := by rw [ByteArray.size_extract]; omega
          by_cases hfl : fr < p
          · have hts : (fresh.extract fr p).size ≤ 20000 := by rw [ByteArray.size_extract]; omega
            have HCAT : Hid (withT out (fresh.extract fr (p + 1)) = out ++ [(-1, fresh.extract fr p ++ fresh.extract p (p + 1))]) := by
              show _ = _
              rw [with_some (by omega) (by omega), ext_more (by omega) hlt]
            rw [with_some hfl (by omega)] at ho5 hll
            rw [List.length_append, List.length_singleton] at ho5 hll
            have HSET := Lib.hid (fun x => blC_last out (-1) (fresh.extract fr p) x)
            obtain ⟨K, hK⟩ : ∃ K, K = out.length := ⟨_, rfl⟩
            have HK : Hid (K = out.length) := hK
            rw [← hK] at ho5 hll HSET
            obtain ⟨t, ht⟩ : ∃ t, t = fresh.extract fr p := ⟨_, rfl⟩
            obtain ⟨u, hu⟩ : ∃ u, u = fresh.extract p (p + 1) := ⟨_, rfl⟩
            rw [← ht] at ho5 hts HCAT HSET
            rw [← hu] at hsl hus HCAT
            have hblk := blC_get (out ++ [(-1, t)]) K (by rw [List.length_append, List.length_singleton]; omega)
            have hgd : (out ++ [((-1 : Int), t)]).getD K bl0 = (-1, t) := by
              rw [List.getD, hK, List.getElem?_append_right (Nat.le_refl _), Nat.sub_self]
              rfl
            rw [hgd] at hblk
            obtain ⟨gb, cpb, hvb⟩ := owns_hd9 ho5 (by omega)
            subst hvb
            have f0 := (ho5.cellAt (K * 2) (by omega)).trans hblk.1
            have f1 := (ho5.cellAt (K * 2 + 1) (by omega)).trans hblk.2
            have z1 := ho5.frozenAt (K * 2 + 1)
            have hadd : ∀ W : World, (Op.stringOp .add t u).run Try.prog W = .ok (.string (t ++ u)) W := fun W => run_string_add_sum W _ _ (by omega)
            have hst := ho5.stored (K * 2 + 1) (.string (t ++ u))
            rw [HSET.out] at hst
            have HO : Hid ((w5.setCell ⟨gb, K * 2 + 1, none⟩ (.string (t ++ u))).ownsRow w.heap.size 54 2 (.slice (some ⟨gb, 0, none⟩) (K + 1) cpb) (out ++ [((-1 : Int), t ++ u)]).length (blC (out ++ [((-1 : Int), t ++ u)]))) := by
              show World.ownsRow _ _ _ _ _ _ _
              rw [List.length_append, List.length_singleton, ← hK]
              exact hst.1
            have HOB := Lib.hid (owns_apart9 hob5 ho5 (by decide) hst.2)
            have HB5 := Lib.hid (hb5.grown hst.2 hsb5 (fun k hk => (ho5.lt k hk).1))
            have hKI : (K : Int) < (K : Int) + 1 := by omega
            have hKI0 : ¬ (K : Int) < 0 := by omega
            have hkk : ((K + 1 : Nat) : Int) - 1 = (K : Int) := by omega
            clear hst ho5 hob5 hb5 hblk hgd hK ht hu HSET
            have hw1 : IntKind.i64.wrap ((p : Int) + 1) = (p : Int) + 1 := IntWalk.i64_in _ ⟨by omega, by omega⟩
            go_wp2
            go_region_with (fail)
            all_goals
              go_wp2
              go_roundg (gk - 1)
              case rel =>
                refine ⟨fr, p + 1, out, by go_num, by omega, by omega, by rw [HCAT.out, List.length_append, List.length_singleton, ← HK.out]; omega, hnt, HM, ?_, ?_, ?_⟩
                · rw [HCAT.out]; exact owns_below HO.out (below_drewN (Below.refl _ _) _)
                · exact owns_below HOB.out (below_drewN (Below.refl _ _) _)
                · exact below_drewN HB5.out _
              case measure => omega
          · obtain rfl : fr = p := by omega
            have HCAT : Hid (withT out (fresh.extract fr (fr + 1)) = out ++ [(-1, fresh.extract fr (fr + 1))]) := with_some (by omega) (by omega)
            rw [with_none] at ho5 hll
            obtain ⟨u, hu⟩ : ∃ u, u = fresh.extract fr (fr + 1) := ⟨_, rfl⟩
            rw [← hu] at hsl hus HCAT
            have HU : Hid (fresh.extract fr (fr + 1) = u) := hu.symm
            clear hu
            have hw1 : IntKind.i64.wrap ((fr : Int) + 1) = (fr : Int) + 1 := IntWalk.i64_in _ ⟨by omega, by omega⟩
            by_cases hK0 : out = []
            · subst hK0
              obtain ⟨av, cv, hvv⟩ := owns_sl9 ho5
              subst hvv
              have hr5 := rdB_one w5 (-1, u) 54
              have hoa := ho5.alloc (.cells #[.int .i64 (-1), .string u] 54)
              have hoba := hob5.alloc (.cells #[.int .i64 (-1), .string u] 54)
              have hba := hb5.alloc hsb5 (.cells #[.int .i64 (-1), .string u] 54)
              clear ho5 hob5 hb5
              go_wp2_with (at_builtin; refine wpList_append_bits rfl _ _ rfl w.heap.size _ [] [(-1, u)] _ rfl rfl hoa hr5 (by rw [List.length_singleton]; omega) (by rw [World.size_alloc]; omega) ?_)
              intro v6 w6 ho6 hg6
              have HB6 := Lib.hid (hba.grown hg6 (by rw [World.size_alloc]; omega) (fun k hk => (hoa.lt k hk).1))
              have HOB6 := Lib.hid (owns_apart9 hoba hoa (by decide) hg6)
              have HO6 : Hid (w6.ownsRow w.heap.size 54 2 v6 ([] ++ [((-1 : Int), u)] : List Bl).length (blC ([] ++ [((-1 : Int), u)] : List Bl))) := by
                show World.ownsRow _ _ _ _ _ _ _
                rw [List.length_append]
                exact ho6
              clear ho6 hg6 hoa hoba hba hr5
              go_wp2
              go_roundg (gk - 1)
              case rel => exact ⟨fr, fr + 1, [], by go_num, by omega, by omega, by rw [HU.out, HCAT.out, List.length_append, List.length_singleton]; omega, hnt, HM, by rw [HU.out, HCAT.out]; exact HO6.out, HOB6.out, HB6.out⟩
              case measure => omega
            · obtain ⟨K, hK⟩ : ∃ K, out.length = K + 1 := ⟨out.length - 1, by have := List.length_pos_iff.2 hK0; omega⟩
              rw [hK] at ho5 hll
              obtain ⟨gb, cpb, hvb⟩ := owns_hd9 ho5 (by omega)
              subst hvb
              have hblk := blC_get out K (by omega)
              have f0 := (ho5.cellAt (K * 2) (by omega)).trans hblk.1
              have hdn := hnt.out _ (last_at hK)
              obtain ⟨d, hd⟩ : ∃ d, d = (out.getD K bl0).1 := ⟨_, rfl⟩
              rw [← hd] at f0 hdn
              have hdb : (d == -1) = false := beq_eq_false_iff_ne.2 hdn
              have hkk : ((K + 1 : Nat) : Int) - 1 = (K : Int) := by omega
              have hKI : (K : Int) < (K : Int) + 1 := by omega
              have hKI0 : ¬ (K : Int) < 0 := by omega
              have HKK := Lib.hid hK
              have hoo : w5.ownsRow w.heap.size 54 2 (.slice (some ⟨gb, 0, none⟩) (K + 1) cpb) out.length (blC out) := by rw [hK]; exact ho5
              clear hblk hdn hd hK
              have hr5 := rdB_one w5 (-1, u) 54
              have hoa := hoo.alloc (.cells #[.int .i64 (-1), .string u] 54)
              have hoba := hob5.alloc (.cells #[.int .i64 (-1), .string u] 54)
              have hba := hb5.alloc hsb5 (.cells #[.int .i64 (-1), .string u] 54)
              clear ho5 hoo hob5 hb5
              go_wp2_with (at_builtin; refine wpList_append_bits rfl _ _ rfl w.heap.size _ out [(-1, u)] _ rfl rfl hoa hr5 (by rw [List.length_singleton, HKK.out]; omega) (by rw [World.size_alloc]; omega) ?_)
              intro v6 w6 ho6 hg6
              have HB6 := Lib.hid (hba.grown hg6 (by rw [World.size_alloc]; omega) (fun k hk => (hoa.lt k hk).1))
              have HOB6 := Lib.hid (owns_apart9 hoba hoa (by decide) hg6)
              have HO6 : Hid (w6.ownsRow w.heap.size 54 2 v6 (out ++ [((-1 : Int), u)]).length (blC (out ++ [((-1 : Int), u)]))) := by
                show World.ownsRow _ _ _ _ _ _ _
                rw [List.length_append]
                exact ho6
              clear ho6 hg6 hoa hoba hba hr5
              go_wp2
              go_roundg (gk - 1)
              case rel => exact ⟨fr, fr + 1, out, by go_num, by omega, by omega, by rw [HU.out, HCAT.out, List.length_append, List.length_singleton, HKK.out]; omega, hnt, HM, by rw [HU.out, HCAT.out]; exact HO6.out, HOB6.out, HB6.out⟩
              case measure => omega
      · obtain ⟨j, rfl, hji, hft⟩ := HFX.out p i z hFd.out (by omega)
        have HH := Lib.hid ((HHIT.out fr p j out hft).symm.trans hR.out)
        have hpm := HFB.out p j hft
        have hz0' : (0 : Int) ≤ (j : Int) := by omega
        have ho5 : (wr.drewN dd).ownsRow w.heap.size 54 2 _ _ _ := owns_below ho (below_drewN (Below.refl _ _) dd)
        have hob5 : (wr.drewN dd).ownsRow w.heap.size 9 1 _ _ _ := owns_below hob (below_drewN (Below.refl _ _) dd)
        have hb5 := below_drewN hb dd
        clear hFd hdr hft hR ho hob hb
        generalize wr.drewN dd = w5 at ho5 hob5 hb5 ⊢
        have hsb5 := hb5.size
        generalize withT out (fresh.extract fr p) = L1 at hll HH ho5
        obtain ⟨av, cv, hvv⟩ := owns_sl9 ho5
        subst hvv
        by_cases hiN : i < N
        all_goals
          have hr5 := rdB_one w5 (blkB j) 54
          have hoa := ho5.alloc (.cells #[.int .i64 (j : Int), .string ⟨#[]⟩] 54)
          have hoba := hob5.alloc (.cells #[.int .i64 (j : Int), .string ⟨#[]⟩] 54)
          have hba := hb5.alloc hsb5 (.cells #[.int .i64 (j : Int), .string ⟨#[]⟩] 54)
          clear ho5 hob5 hb5
          go_wp2_with (at_builtin; refine wpList_append_bits rfl _ _ rfl w.heap.size _ L1 [blkB j] _ rfl rfl hoa hr5 (by rw [List.length_singleton]; omega) (by rw [World.size_alloc]; omega) ?_)
          intro v6 w6 ho6 hg6
          have HB6 := Lib.hid (hba.grown hg6 (by rw [World.size_alloc]; omega) (fun k hk => (hoa.lt k hk).1))
          have HOB6 := Lib.hid (owns_apart9 hoba hoa (by decide) hg6)
          have HO6 : Hid (w6.ownsRow w.heap.size 54 2 v6 (L1 ++ [blkB j]).length (blC (L1 ++ [blkB j]))) := by
            show World.ownsRow _ _ _ _ _ _ _
            rw [List.length_append]
            exact ho6
          have HNT := Lib.hid (noTail_blk L1 j)
          clear ho6 hg6 hoa hoba hba hr5
          go_wp2
          go_roundg (fresh.size - (p + m))
          case rel => exact ⟨p + m, p + m, L1 ++ [blkB j], by go_num, by omega, by omega, by rw [with_none, List.length_append, List.length_singleton]; omega, HNT, HH, by rw [with_none]; exact HO6.out, HOB6.out, HB6.out⟩
          case measure => omega
end Go.Proofs.Ytdiammehnakchac
