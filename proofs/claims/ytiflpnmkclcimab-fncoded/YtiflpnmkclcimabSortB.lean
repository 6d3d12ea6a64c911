/- CONTRACTS: slices.stableCmpFunc, SortStableFunc; impl.byLength. -/
import Derived.Test.YtiflpnmkclcimabSortM2
import Derived.Lib.Hide
import Derived.Laws.MakeOwn
import Derived.OwnWalk
namespace Go.Proofs.Ytiflpnmkclcimab
open Go.RowKit
set_option linter.unusedVariables false

set_option maxHeartbeats 4000000 in
set_option maxRecDepth 100000 in
theorem stable_lt (g n bx : Nat) (vl : Value) (l : List Int) (w : World) (h : RowSt g n (fun k => k) w) (hE : EnvS g bx vl l w) (hl0 : ∀ i, i < l.length → 0 ≤ l.getD i 0) (hnl : n = l.length) (hn : n ≤ 32) (h20 : n < 20) :
    Calls Try.prog 100 #[.slice (some ⟨g, 0, none⟩) n n, .int .i64 (n : Int), .func (.func 85) #[] #[.pointer (some ⟨bx, 0, none⟩)]] w fun e w' => e = .returned (.tuple #[]) ∧
      ∃ f', RowSt g n f' w' ∧ Srt.Seg 0 n (fun k => k) f' ∧ Srt.Sorted (lenN l) 0 n f' ∧ Below g w w' := by
  have hll : l.length ≤ 1000000 := by omega
  have hnl1 : n ≤ l.length := by omega
  have hnl2 : l.length ≤ n := by omega
  clear hnl
  have H1 := insertion_any g n bx 0 n vl l _ w h hE hl0 (fun k hk => by omega) (Nat.zero_le _) (Nat.le_refl _) (by omega) hll (fun p q _ hpq _ => hpq)
  have hI : ¬ (20 : Int) ≤ (n : Int) := by omega
  have hI2 : ¬ (20 : Int) < (n : Int) := by omega
  clear h hE hl0
  go_enter Try.func100, Try.ntmps100
  go_wp2
  refine wp_loop_rounds 1 ?_
  rw [rounds_succ]
  go_wp2_with fail
  refine H1.mono ?_
  rintro e w1 ⟨rfl, hf⟩
  have HF := Lib.hid hf
  clear H1 hf
  go_wp2
  refine wp_loop_rounds 1 ?_
  rw [rounds_succ]
  go_wp2
  go_end0
  exact ⟨rfl, HF.out⟩
set_option maxHeartbeats 4000000 in
set_option maxRecDepth 100000 in
theorem stable_eq (g n bx : Nat) (vl : Value) (l : List Int) (w : World) (h : RowSt g n (fun k => k) w) (hE : EnvS g bx vl l w) (hl0 : ∀ i, i < l.length → 0 ≤ l.getD i 0) (hnl : n = l.length) (hn : n ≤ 32) (h20 : n = 20) :
    Calls Try.prog 100 #[.slice (some ⟨g, 0, none⟩) n n, .int .i64 (n : Int), .func (.func 85) #[] #[.pointer (some ⟨bx, 0, none⟩)]] w fun e w' => e = .returned (.tuple #[]) ∧
      ∃ f', RowSt g n f' w' ∧ Srt.Seg 0 n (fun k => k) f' ∧ Srt.Sorted (lenN l) 0 n f' ∧ Below g w w' := by
  have hll : l.length ≤ 1000000 := by omega
  have hnl1 : n ≤ l.length := by omega
  have hnl2 : l.length ≤ n := by omega
  clear hnl
  have H1 := insertion_any g n bx 0 20 vl l _ w h hE hl0 (fun k hk => by omega) (Nat.zero_le _) (by omega) (by omega) hll (fun p q _ hpq _ => hpq)
  have H2 := fun f w1 hr hE hf => insertion_any g n bx 20 20 vl l f w1 hr hE hl0 hf (Nat.le_refl _) (by omega) (by omega) hll (fun p q h1 h2 h3 => by omega)
  have hI : (20 : Int) ≤ (n : Int) := by omega
  have hI2 : ¬ (20 : Int) < (n : Int) := by omega
  have hI3 : ¬ (40 : Int) ≤ (n : Int) := by omega
  have hnI : (n : Int) = 20 := by omega
  have HN := Lib.hid h20
  clear h hl0 h20
  go_enter Try.func100, Try.ntmps100
  go_wp2
  refine wp_loop_rounds 2 ?_
  rw [rounds_succ]
  go_wp2_with fail
  refine H1.mono ?_
  rintro e w1 ⟨rfl, f1, hr1, hg1, hs1, hb1⟩
  have HF1 : Hid (Srt.Seg 0 20 (fun k => k) f1 ∧ Srt.Sorted (lenN l) 0 20 f1) := ⟨hg1, hs1⟩
  have hc2 := H2 f1 w1 hr1 (hE.below hb1) (seg_keeps (n := n) (P := fun x => x < l.length) hg1 (by omega) (fun k hk => by omega))
  clear H1 hg1 hs1 H2 hr1 hE
  go_wp2
  rw [rounds_succ]
  go_wp2_with fail
  refine hc2.mono ?_
  rintro e w2 ⟨rfl, f2, hr2, hg2, hs2, hb2⟩
  have HF2 : Hid (Srt.Seg 0 n (fun k => k) f2 ∧ Srt.Sorted (lenN l) 0 n f2) := by
    have hn20 := HN.out
    refine ⟨(HF1.out.1.mono (Nat.le_refl _) (by omega)).trans (hg2.mono (by omega) (by omega)), fun x y h1 h2 h3 => ?_⟩
    rw [hg2.out (by omega), hg2.out (by omega)]
    exact HF1.out.2 x y h1 h2 (by omega)
  clear hc2 hg2 hs2
  go_wp2
  refine wp_loop_rounds 1 ?_
  rw [rounds_succ]
  go_wp2
  go_end0
  exact ⟨rfl, f2, hr2, HF2.out.1, HF2.out.2, hb1.trans hb2⟩
set_option maxHeartbeats 4000000 in
set_option maxRecDepth 100000 in
theorem stable_gt (g n bx : Nat) (vl : Value) (l : List Int) (w : World) (h : RowSt g n (fun k => k) w) (hE : EnvS g bx vl l w) (hl0 : ∀ i, i < l.length → 0 ≤ l.getD i 0) (hnl : n = l.length) (hn : n ≤ 32) (h20 : 20 < n) :
    Calls Try.prog 100 #[.slice (some ⟨g, 0, none⟩) n n, .int .i64 (n : Int), .func (.func 85) #[] #[.pointer (some ⟨bx, 0, none⟩)]] w fun e w' => e = .returned (.tuple #[]) ∧
      ∃ f', RowSt g n f' w' ∧ Srt.Seg 0 n (fun k => k) f' ∧ Srt.Sorted (lenN l) 0 n f' ∧ Below g w w' := by
  have hll : l.length ≤ 1000000 := by omega
  have hnl1 : n ≤ l.length := by omega
  have hnl2 : l.length ≤ n := by omega
  clear hnl
  have H1 := insertion_any g n bx 0 20 vl l _ w h hE hl0 (fun k hk => by omega) (Nat.zero_le _) (by omega) (by omega) hll (fun p q _ hpq _ => hpq)
  have H2 := fun f w1 hr hE hf hi => insertion_any g n bx 20 n vl l f w1 hr hE hl0 hf (by omega) (Nat.le_refl _) (by omega) hll hi
  have H3 := fun f w1 hr hE hf h1 h2 h3 => symMerge_any g n bx vl l hl0 (by omega) hll n 0 20 n f w1 (by omega) hr hE hf (by omega) h20 (Nat.le_refl _) h1 h2 h3
  have hI : (20 : Int) ≤ (n : Int) := by omega
  have hI2 : (20 : Int) < (n : Int) := by omega
  have hI3 : ¬ (40 : Int) ≤ (n : Int) := by omega
  have hI4 : ¬ (40 : Int) < (n : Int) := by omega
  clear h hl0
  go_enter Try.func100, Try.ntmps100
  go_wp2
  refine wp_loop_rounds 2 ?_
  rw [rounds_succ]
  go_wp2_with fail
  refine H1.mono ?_
  rintro e w1 ⟨rfl, f1, hr1, hg1, hs1, hb1⟩
  have HF1 : Hid (Srt.Seg 0 20 (fun k => k) f1 ∧ Srt.Sorted (lenN l) 0 20 f1) := ⟨hg1, hs1⟩
  have hk1 := seg_keeps (n := n) (P := fun x => x < l.length) hg1 (by omega) (fun k hk => by omega)
  have ho1 : ∀ k, 20 ≤ k → f1 k = k := fun k hk => hg1.out (Or.inr hk)
  have hE1 := hE.below hb1
  have hc2 := H2 f1 w1 hr1 hE1 hk1 (fun p q h1 h2 h3 => by rw [ho1 p h1, ho1 q (by omega)]; exact h2)
  have HK1 := Lib.hid hk1
  have HO1 := Lib.hid ho1
  clear H1 hg1 hs1 H2 hr1 hE hk1 ho1
  go_wp2
  rw [rounds_succ]
  go_wp2_with fail
  refine hc2.mono ?_
  rintro e w2 ⟨rfl, f2, hr2, hg2, hs2, hb2⟩
  have hk2 := seg_keeps (n := n) (P := fun x => x < l.length) hg2 (Nat.le_refl _) HK1.out
  have ho2 : ∀ k, k < 20 → f2 k = f1 k := fun k hk => hg2.out (Or.inl hk)
  have hc3 := H3 f2 w2 hr2 (hE1.below hb2) hk2 (fun x y h1 h2 h3 => by
    rw [ho2 x (by omega), ho2 y h3]
    exact HF1.out.2 x y h1 h2 h3) hs2 (fun p q h1 h2 h3 h4 => by
    rw [ho2 p h2]
    have e1 : f1 p < 20 := HF1.out.1.all (P := fun x => x < 20) (fun k _ hk => hk) p (Nat.zero_le _) h2
    have e2 : 20 ≤ f2 q := hg2.all (P := fun x => 20 ≤ x) (fun k k1 k2 => by rw [HO1.out k k1]; exact k1) q h3 h4
    omega)
  have HG2 : Hid (Srt.Seg 0 n (fun k => k) f2) := Lib.hid ((HF1.out.1.mono (Nat.le_refl _) (by omega)).trans (hg2.mono (by omega) (Nat.le_refl _)))
  have hB2 := hb1.trans hb2
  clear hc2 hg2 hs2 H3 hr2 hE1 hk2 ho2 hb1 hb2 HF1 HO1 HK1
  go_wp2
  refine wp_loop_rounds 2 ?_
  rw [rounds_succ]
  go_wp2
  refine wp_loop_rounds 1 ?_
  rw [rounds_succ]
  go_wp2_with fail
  refine hc3.mono ?_
  rintro e w3 ⟨rfl, f3, hr3, hg3, hs3, hb3⟩
  have HF3 : Hid (Srt.Seg 0 n (fun k => k) f3 ∧ Srt.Sorted (lenN l) 0 n f3) := ⟨HG2.out.trans hg3, hs3⟩
  clear hc3 hg3 hs3
  go_wp2
  rw [rounds_succ]
  go_wp2
  go_end0
  exact ⟨rfl, f3, hr3, HF3.out.1, HF3.out.2, hB2.trans hb3⟩
set_option maxHeartbeats 4000000 in
set_option maxRecDepth 100000 in
theorem stable_any (g n bx : Nat) (vl : Value) (l : List Int) (w : World) (h : RowSt g n (fun k => k) w) (hE : EnvS g bx vl l w) (hl0 : ∀ i, i < l.length → 0 ≤ l.getD i 0) (hnl : n = l.length) (hn : n ≤ 32) :
    Calls Try.prog 100 #[.slice (some ⟨g, 0, none⟩) n n, .int .i64 (n : Int), .func (.func 85) #[] #[.pointer (some ⟨bx, 0, none⟩)]] w fun e w' => e = .returned (.tuple #[]) ∧
      ∃ f', RowSt g n f' w' ∧ Srt.Seg 0 n (fun k => k) f' ∧ Srt.Sorted (lenN l) 0 n f' ∧ Below g w w' := by
  rcases Nat.lt_trichotomy n 20 with h20 | h20 | h20
  · exact stable_lt g n bx vl l w h hE hl0 hnl hn h20
  · exact stable_eq g n bx vl l w h hE hl0 hnl hn h20
  · exact stable_gt g n bx vl l w h hE hl0 hnl hn h20
set_option maxRecDepth 100000 in
theorem sortStable_any (g n bx : Nat) (vl : Value) (l : List Int) (w : World) (h : RowSt g n (fun k => k) w) (hE : EnvS g bx vl l w) (hl0 : ∀ i, i < l.length → 0 ≤ l.getD i 0) (hnl : n = l.length) (hn : n ≤ 32) :
    Calls Try.prog 84 #[.slice (some ⟨g, 0, none⟩) n n, .func (.func 85) #[] #[.pointer (some ⟨bx, 0, none⟩)]] w fun e w' => e = .returned (.tuple #[]) ∧
      ∃ f', RowSt g n f' w' ∧ Srt.Seg 0 n (fun k => k) f' ∧ Srt.Sorted (lenN l) 0 n f' ∧ Below g w w' := by
  have H1 := stable_any g n bx vl l w h hE hl0 hnl hn
  clear h hE hl0 hnl
  go_enter Try.func84, Try.ntmps84
  go_wp2_with fail
  refine H1.mono ?_
  rintro e w1 ⟨rfl, hf⟩
  have HF := Lib.hid hf
  clear H1 hf
  go_wp2
  go_end0
  exact ⟨rfl, HF.out⟩
def iniF (i : Nat) : Nat → Nat := fun k => if k < i then k else 0
theorem iniF_step (k : Nat) : Srt.upd (iniF k) k k = iniF (k + 1) := by
  funext j
  unfold Srt.upd iniF
  by_cases h : j = k
  · rw [if_pos h, if_pos (by omega)]; exact h.symm
  · rw [if_neg h]
    by_cases h2 : j < k
    · rw [if_pos h2, if_pos (by omega)]
    · rw [if_neg h2, if_neg (by omega)]
set_option maxHeartbeats 1000000 in
set_option maxRecDepth 100000 in
/-- the numbers of the lengths in their order -/
theorem byLength_any (vl : Value) (l : List Int) (w : World) (ha : Rd w vl (cellsInt64S l)) (hl0 : ∀ i, i < l.length → 0 ≤ l.getD i 0) (h1 : 1 ≤ l.length) (hn : l.length ≤ 32) :
    Calls Try.prog 62 #[vl] w fun e w' => ∃ f, e = .returned (.slice (some ⟨w.heap.size + 1, 0, none⟩) l.length l.length) ∧ RowSt (w.heap.size + 1) l.length f w' ∧ Srt.Seg 0 l.length (fun k => k) f ∧ Srt.Sorted (lenN l) 0 l.length f ∧ Below w.heap.size w w' ∧ w.heap.size + 2 ≤ w'.heap.size := by
  have hi := (show (Try.prog.info? 3).map (fun i => (i.zero, i.size, i.bytes)) = some (some (.int .i64 0), 1, 8) by kernel_rfl)
  obtain ⟨i0, hi, hz0, hz1, hz2⟩ := info_parts hi
  have hlA : (cellsInt64S l).length = l.length := by simp
  obtain ⟨ao, cap, hvl, hcap, _⟩ := id ha
  rw [hlA] at hvl hcap
  obtain ⟨w1, hw1⟩ : ∃ w1, w1 = w.alloc (.cells #[vl] 28) := ⟨_, rfl⟩
  have hB1 : Below w.heap.size w w1 := by rw [hw1]; exact (Below.refl _ _).alloc (Nat.le_refl _) _
  have hs1 : w1.heap.size = w.heap.size + 1 := by rw [hw1]; exact World.size_alloc _ _
  have hbx : w1.heap[w.heap.size]? = some (.cells #[vl] 28 (0, 0)) := by rw [hw1]; exact heap_alloc_new w _
  have hcx : w1.cell? ⟨w.heap.size, 0, none⟩ = some vl := by rw [Lib.cell_of_heap hbx]; rfl
  have ha1 : Rd w1 vl (cellsInt64S l) := rd_below ha hB1
  have HL0 := Lib.hid hl0
  have hE1 : ∀ w2, Below w1.heap.size w1 w2 → EnvS (w.heap.size + 1) w.heap.size vl l w2 := fun w2 hb => ⟨w1, hs1, by omega, hcx, ha1, by rw [hs1] at hb; exact hb⟩
  have HE1 := Lib.hid hE1
  have HW1 := Lib.hid hw1.symm
  clear ha hl0 hw1 hE1 ha1
  obtain ⟨n, hnn⟩ : ∃ n, n = l.length := ⟨_, rfl⟩
  rw [← hnn] at hvl hcap h1 hn ⊢
  have HNN := Lib.hid hnn
  clear hnn hlA
  subst hvl
  go_enter Try.func62, Try.ntmps62
  go_wp2_with (at_make; refine wpList_make_full _ rfl _ _ 67 rfl (w.heap.size + 1) 3 i0 (.int .i64 0) 1 Try.underlying67 hi hz0 hz1 _ _ _ _ n rfl rfl (by omega) (by omega) (by rw [hz2]; omega) (by unfold maxLen; omega) ?e1 ?_)
  case e1 => rw [HW1.out]; omega
  intro w2 ho2 hg2
  rw [HW1.out] at hg2
  have hB2 : Below w1.heap.size w1 w2 := (Below.refl _ _).grown hg2 (Nat.le_refl _) (fun q hq => by cases hq)
  have hr2 : RowSt (w.heap.size + 1) n (iniF 0) w2 := by
    have h := ho2
    rw [toList_madeCells_one] at h
    have e : cellsInt64S (rowG (iniF 0) n) = List.replicate n (.int .i64 0) := by
      unfold rowG cellsInt64S
      rw [List.map_map]
      have e2 : (Value.int .i64 ∘ fun i => ((iniF 0 i : Nat) : Int)) = fun _ => Value.int .i64 0 := by
        funext x
        simp [iniF]
      rw [e2, List.map_const', List.length_range]
    unfold RowSt
    rw [e]
    simpa using h
  have hs2 : w.heap.size + 2 ≤ w2.heap.size := by
    have := (World.ownsRow.lt hr2 (w.heap.size + 1) rfl).2
    omega
  have hE2 := HE1.out w2 hB2
  have hBB2 : Below w.heap.size w w2 := hB1.trans (hB2.mono (by omega))
  clear ho2 hg2 hB2 hbx
  have hcx2 : w2.cell? ⟨w.heap.size, 0, none⟩ = some (.slice ao n cap) := hE2.reads.1
  have HCX : Hid (∀ w3, Below (w.heap.size + 1) w2 w3 → w3.cell? ⟨w.heap.size, 0, none⟩ = some (.slice ao n cap)) := fun w3 hb => (hb.cell (p := ⟨w.heap.size, 0, none⟩) (Nat.lt_succ_self _)).trans hcx2
  have HE2 := Lib.hid hE2
  clear HW1 HE1 hcx hB1 hs1 hcx2 hE2
  go_wp2
  go_loopw [10] (fun i wr => ∃ k : Nat, i = .int .i64 k ∧ k ≤ n ∧ RowSt (w.heap.size + 1) n (iniF k) wr ∧ Below (w.heap.size + 1) w2 wr) (fun i _ => n - (intOf i).toNat)
  case atStart => exact ⟨0, rfl, Nat.zero_le _, hr2, Below.refl _ _⟩
  case round =>
    obtain ⟨k, rfl, hk, hr, hb⟩ := hrel
    clear hr2
    by_cases hlt : k < n
    focus
      have f1 : wr.frozen? ⟨w.heap.size + 1, k, none⟩ = false := World.ownsRow.frozenAt hr _
      obtain ⟨x, hx⟩ : ∃ x, wr.cell? ⟨w.heap.size + 1, k, none⟩ = some x := ⟨_, hr.cell hlt⟩
      have hst := hr.set k k
      rw [iniF_step] at hst
      have HST := Lib.hid hst
      clear hst hr
      go_wp2
      go_roundw
      case rel => exact ⟨k + 1, by go_num, by omega, HST.out.1, hb.grown HST.out.2 (by have := hb.size; omega) (fun q hq => by cases hq; exact Nat.le_refl _)⟩
      case measure => simp [intOf]; omega
    obtain rfl : k = n := by omega
    have hrid : RowSt (w.heap.size + 1) k (fun i => i) wr := by
      have e : rowG (iniF k) k = rowG (fun i => i) k := by
        unfold rowG
        refine List.map_congr_left fun i hi => ?_
        have := List.mem_range.1 hi
        unfold iniF
        rw [if_pos this]
      unfold RowSt at hr ⊢
      rw [← e]
      exact hr
    have hc := sortStable_any (w.heap.size + 1) k w.heap.size (.slice ao k cap) l wr hrid (HE2.out.below hb) HL0.out HNN.out (by omega)
    have hBr : Below w.heap.size w wr := hBB2.trans (hb.mono (Nat.le_succ _))
    have hsr := Nat.le_trans hs2 hb.size
    clear hr hrid hb hBB2 HCX HE2
    go_wp2_with fail
    refine hc.mono ?_
    rintro e w3 ⟨rfl, f, hr3, hg3, hs3, hb3⟩
    rw [HNN.out] at hr3 hg3 hs3
    have hnn := HNN.out
    have HG : Hid (Srt.Seg 0 l.length (fun k => k) f ∧ Srt.Sorted (lenN l) 0 l.length f) := ⟨hg3, hs3⟩
    have HNL := Lib.hid hnn
    clear hc hg3 hs3 hnn
    have hB3 := hBr.trans (hb3.mono (Nat.le_succ _))
    have hs3 := Nat.le_trans hsr hb3.size
    rw [← HNL.out] at hr3
    go_wp2
    go_ret
    exact ⟨f, rfl, hr3, by rw [HNL.out]; exact HG.out.1, by rw [HNL.out]; exact HG.out.2, hB3, hs3⟩
end Go.Proofs.Ytiflpnmkclcimab
