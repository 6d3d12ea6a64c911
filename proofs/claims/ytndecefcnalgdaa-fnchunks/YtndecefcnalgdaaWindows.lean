/- CONTRACTS: impl.windows and the iterator that it hands back; impl.Rolls, which ranges over it. -/
import Derived.RangeFuncBox
import Derived.RangeFuncNested
import Derived.RangeFuncBound
import Derived.RangeFuncCalls
import Derived.RangeFuncLeaves
import Derived.Shelf.Abstract
import Derived.Shelf.RegionOpen
import Derived.OwnWalkIn
import Derived.TacticsInMore
import Derived.LoopNIn
import Derived.LoopIn
import Derived.Maps.AppendAt
import Derived.Test.YtndecefcnalgdaaRollMath
namespace Go.Proofs.Ytndecefcnalgdaa
open Go.RowKit Go.Shelf

attribute [local go_sem] Oper.semAt_some

/-- whatever is cells stays, but for the blocks g and B -/
def KeepC (g B : Nat) (A A' : World) : Prop := ∀ b o, b ≠ g → b ≠ B → A.heap[b]? = some o → o.isCells = true → A'.heap[b]? = some o
theorem KeepC.trans {g B : Nat} {A A' A'' : World} (h : KeepC g B A A') (k : KeepC g B A' A'') : KeepC g B A A'' := fun b o hg hB ho hc => k b o hg hB (h b o hg hB ho hc) hc
theorem keepC_put (g B : Nat) (W : World) (l : Nat) (o o' : Obj) (h : W.heap[l]? = some o) (hc : o.isCells = false) : KeepC g B W (W.putObj l o') := fun b u _ _ hu huc => by
  have hne : b ≠ l := fun e => by
    subst e
    rw [h] at hu
    cases hu
    rw [hc] at huc
    cases huc
  have := (grownBy_putObj' W l o').block b (Array.getElem?_eq_some_iff.1 hu).1 (fun e => hne (by cases e; rfl))
  exact this.trans hu
theorem keepC_boxed {g B b : Nat} {A A' : World} {t : TypeId} {v : Value} (k : KeepC g B A A') (h : Boxed A b t v) (hg : b ≠ g) (hB : b ≠ B) : Boxed A' b t v := k b _ hg hB h rfl

theorem keepC_grown {g B : Nat} {W W1 W2 : World} (h1 : W.grownBy W1 (some g)) (h2 : W1.grownBy W2 (some B)) : KeepC g B W W2 := fun b o hg hB ho _ => by
  have hlt := (Array.getElem?_eq_some_iff.1 ho).1
  have e1 := h1.block b hlt (fun e => hg (by cases e; rfl))
  have e2 := h2.block b (Nat.lt_of_lt_of_le hlt h1.size) (fun e => hB (by cases e; rfl))
  exact e2.trans (e1.trans ho)
theorem bytesRow_size (s : ByteArray) (cap : Nat) (h : s.size ≤ cap) : (bytesRow s cap).size = cap := by
  have e : s.data.size = s.size := rfl
  simp [bytesRow, e]; omega
theorem windows_in (s : ByteArray) (m : Int) (w : World) :
    Calls Try.prog 82 #[.string s, .int .i64 m] w fun e w' => e = .returned (.func (.func 95) #[] #[.pointer (some ⟨w.heap.size, 0, none⟩), .pointer (some ⟨w.heap.size + 1, 0, none⟩)]) ∧ w' = (w.alloc (.cells #[.string s] 9)).alloc (.cells #[.int .i64 m] 2) := by
  go_enter Try.func82, Try.ntmps82
  go_wp2
  go_ret
  exact ⟨by simp, rfl⟩

set_option maxRecDepth 100000 in
set_option maxHeartbeats 4000000 in
theorem windows1_in (n : Nat) (hn : 1 ≤ n) (l Bs Bn g B m : Nat) (s : ByteArray) (hm1 : 1 ≤ m) (hm2 : m ≤ 16) (hms : m ≤ s.size) (hss : s.size ≤ 20000)
    (J Jx : List Int → World → Prop) (W : World) (hg : g < W.heap.size) (hB : B < W.heap.size) (hsg : Bs ≠ g) (hsB : Bs ≠ B) (hng : Bn ≠ g) (hnB : Bn ≠ B) (hJ : AbidesFrom W.heap.size J)
    (hY : ∀ pre x W1, J pre W1 → pre.length < s.size + 1 - m → YieldAt Fence.wide (n - 1) Try.prog l #[.int .i64 x] W1 fun e W' =>
      (e = .returned (.bool true) ∧ J (pre ++ [x]) W' ∧ KeepC g B W1 W') ∨ (e = .returned (.bool false) ∧ Jx (pre ++ [x]) W'))
    (hBs : Boxed W Bs 9 (.string s)) (hBn : Boxed W Bn 2 (.int .i64 (m : Int))) (h0 : J [] W) :
    CallsIn Fence.wide n Try.prog 95 #[.func (.yield l) #[] #[], .pointer (some ⟨Bs, 0, none⟩), .pointer (some ⟨Bn, 0, none⟩)] W fun e W' => (∃ v, e = .returned v) ∧
      ((∃ ys, ys = rollsN s m (s.size + 1 - m) ∧ J ys W') ∨ (∃ pre, (∃ k, k ≤ s.size - m ∧ pre = rollsN s m (k + 1)) ∧ Jx pre W')) := by
  have hcs := hBs.cell
  have hcn := hBn.cell
  have hsl1 : ∀ W : World, (Instr.slice 9 (.string s) none (some (.int .i64 (m : Int))) none).run Try.prog W = .ok (.string (s.extract 0 m)) W := fun W => by
    rw [run_slice_string_h W 9 s Try.underlying9 .i64 _ (by omega) (by omega), Int.toNat_natCast]
  have hsl2 : ∀ W : World, (Instr.slice 9 (.string s) (some (.int .i64 (m : Int))) none none).run Try.prog W = .ok (.string (s.extract m s.size)) W := fun W => by
    rw [run_slice_string_l W 9 s Try.underlying9 .i64 _ (by omega) (by omega), Int.toNat_natCast]
  have hfw := first_window s m
  have hts : (s.extract 0 m).size ≤ 9223372036854775807 := by rw [ByteArray.size_extract]; omega
  obtain ⟨t0, ht0⟩ : ∃ t0, t0 = s.extract 0 m := ⟨_, rfl⟩
  rw [← ht0] at hsl1 hfw hts
  clear ht0
  have hbx := byts_extract s m s.size
  have hus : (s.extract m s.size).size = s.size - m := by rw [ByteArray.size_extract]; omega
  obtain ⟨t, ht⟩ : ∃ t, t = s.extract m s.size := ⟨_, rfl⟩
  rw [← ht] at hsl2 hbx hus
  clear ht
  have hcv := run_bytes_of_string (P := Try.prog) W 9 22 5 t Try.underlying9 Try.underlying22 Try.underlying5
  refine callsIn_of_wp Try.func95 rfl trivial ?_ rfl
  simp only [Try.ntmps95, List.size_toArray, List.length_cons, List.length_nil, Nat.reduceAdd, Nat.reduceSub, Array.replicate_succ, Array.replicate_zero, List.push_toArray, List.append_toArray, List.nil_append, List.cons_append]
  have hcap : t.size ≤ grownCap W t.size 0 5 := grownCap_ge W t.size 0 5
  have hcc : ∀ k, k < t.size → ((bytesRow t (grownCap W t.size 0 5)) : Array Value)[k]? = some (.int .u8 ((byts t).getD k 0)) := fun k hk => by
    rw [byts_get t k hk]
    exact bytesRow_at t _ k hk
  have hcz := bytesRow_size t (grownCap W t.size 0 5) hcap
  obtain ⟨cap, hcp⟩ : ∃ cap, cap = grownCap W t.size 0 5 := ⟨_, rfl⟩
  rw [← hcp] at hcap hcc hcz hcv
  clear hcp
  obtain ⟨cs, hce⟩ : ∃ cs, cs = bytesRow t cap := ⟨_, rfl⟩
  rw [← hce] at hcc hcz hcv
  clear hce
  rw [hcz] at hcv
  obtain ⟨W1, hW1⟩ : ∃ W1, W1 = W.drew.alloc (.cells cs 5 (cap, cap + 1)) := ⟨_, rfl⟩
  have hgr : W.grownBy W1 none := by rw [hW1]; exact grown_trans (w := W.drew) ⟨rfl, rfl, rfl, Nat.le_refl _, fun _ _ _ => rfl⟩ (World.grownBy_alloc W.drew _ _)
  have hrow : W1.heap[W.heap.size]? = some (.cells cs 5 (cap, cap + 1)) := by rw [hW1]; exact World.alloc_heap_new W.drew _
  have hJ1 := hJ _ _ _ _ h0 hgr (by simp)
  have hB1s := hBs.kept hgr (by simp)
  have hB1n := hBn.kept hgr (by simp)
  rw [← hW1] at hcv
  clear hW1 hgr
  gi_wp2_with (refine ⟨trivial, ?_⟩; gi_at_call 46; refine (callsIn_wide.2 (implRoll_any t0 _ hts)).mono ?_; rintro e w' ⟨rfl, hw'⟩; replace hw' := hw'.symm; subst hw')
  gi_loopw [4, 16] (fun h i wr => ∃ k : Nat, k ≤ s.size - m ∧ h = .int .i64 (wroll s m k) ∧ i = .int .i64 k ∧ J (rollsN s m k) wr ∧ Boxed wr Bs 9 (.string s) ∧ Boxed wr Bn 2 (.int .i64 (m : Int)) ∧ wr.heap[W.heap.size]? = some (.cells cs 5 (cap, cap + 1))) (fun _ i _ => s.size - m - (intOf i).toNat)
  case atStart => exact ⟨0, Nat.zero_le _, rfl, rfl, hJ1, hB1s, hB1n, hrow⟩
  case round =>
    obtain ⟨k, hk, rfl, rfl, hJk, hbs, hbn, hro⟩ := hrel
    by_cases hlt : k < s.size - m
    · have hck : wr.cell? ⟨W.heap.size, k, none⟩ = some (.int .u8 ((byts t).getD k 0)) := by
        rw [cell_of_row wr W.heap.size k _ _ _ hro]
        exact hcc k (by omega)
      have htk : (byts t).getD k 0 = (byts s).getD (k + m) 0 := by
        rw [hbx, take_getD _ _ _ hlt, List.getD, List.getElem?_drop, Nat.add_comm m k]
        rfl
      rw [htk] at hck
      obtain ⟨fn, tmps, assign, body, hy, hR⟩ := hY _ (wroll s m k) wr hJk (by rw [rollsN_len]; omega)
      have hbr := byts_range s (k + m)
      have hbr0 := byts_range s k
      have hix := str_at s k (by omega)
      have hwn := wroll_next s m k hm1 (by omega)
      have hwi := wroll_in s m k
      obtain ⟨x, hx⟩ : ∃ x, x = (byts s).getD k 0 := ⟨_, rfl⟩
      rw [← hx] at hbr0 hix hwn
      obtain ⟨y, hyy⟩ : ∃ y, y = (byts s).getD (k + m) 0 := ⟨_, rfl⟩
      rw [← hyy] at hck hbr hwn
      obtain ⟨h, hh⟩ : ∃ h, h = wroll s m k := ⟨_, rfl⟩
      rw [← hh] at hwn hwi hy hR
      have hsucc := rollsN_succ s m k
      rw [← hh] at hsucc ⊢
      clear hx hyy hh htk hY hcc
      gi_wp2
      refine hR.mono ?_
      rintro e W3 (⟨rfl, hJ3, hk3⟩ | ⟨rfl, hJx3⟩)
      · have hbs3 := keepC_boxed hk3 hbs hsg hsB
        have hbn3 := keepC_boxed hk3 hbn hng hnB
        have hro3 := hk3 _ _ (by omega) (by omega) hro rfl
        have hcs3 := hbs3.cell
        have hcn3 := hbn3.cell
        clear hcs hcn hck hJk hbs hbn hro
        gi_wp2
        have hok : okR h x y (m : Int) := ⟨hwi, hbr0, hbr, by omega, by omega⟩
        refine wpIn_wide.2 ?_
        go_quiet (first | (go_at_call 44; refine (implRolled_in h x y m _ hok).mono ?_; rintro e w2 ⟨rfl, rfl⟩; exact ⟨rfl, ⟨_, rfl⟩⟩))
        have hgq : W3.grownBy (W3.drewN nq) none := ⟨rfl, rfl, rfl, Nat.le_refl _, fun _ _ _ => rfl⟩
        have hJ4 := hJ _ _ _ _ hJ3 hgq (by simp)
        have hbs4 := hbs3.kept hgq (by simp)
        have hbn4 := hbn3.kept hgq (by simp)
        have hro4 : (W3.drewN nq).heap[W.heap.size]? = some (.cells cs 5 (cap, cap + 1)) := hro3
        rw [hwn]
        rw [← hsucc] at hJ4
        clear hJ3 hcs3 hcn3 hbs3 hbn3 hro3 hix hbr hbr0 hwn hsucc hok hy hR
        gi_wp2
        go_roundw
        case rel => exact ⟨k + 1, by omega, rfl, by go_num, hJ4, hbs4, hbn4, hro4⟩
        case measure => simp [intOf]; omega
      · gi_wp2
        refine bodyPost_ret (results_none rfl _ _ _) rfl ?_
        exact ⟨⟨_, rfl⟩, .inr ⟨_, ⟨k, by omega, hsucc.symm⟩, hJx3⟩⟩
    · obtain rfl : k = s.size - m := by omega
      obtain ⟨fn, tmps, assign, body, hy, hR⟩ := hY _ (wroll s m (s.size - m)) wr hJk (by rw [rollsN_len]; omega)
      have hsucc := rollsN_succ s m (s.size - m)
      rw [show s.size - m + 1 = s.size + 1 - m by omega] at hsucc
      gi_wp2
      refine hR.mono ?_
      rintro e W3 (⟨rfl, hJ3, hk3⟩ | ⟨rfl, hJx3⟩)
      · gi_wp2
        go_end0
        exact ⟨⟨_, rfl⟩, .inl ⟨_, rfl, by rw [hsucc]; exact hJ3⟩⟩
      · gi_wp2
        go_end0
        exact ⟨⟨_, rfl⟩, .inr ⟨_, ⟨s.size - m, Nat.le_refl _, by rw [show s.size - m + 1 = s.size + 1 - m by omega]; exact hsucc.symm⟩, hJx3⟩⟩
/-- what windows hands back goes through the windows' numbers, whatever the body does to the blocks g and B -/
theorem windows_stops (n : Nat) (hn : 1 ≤ n) (Bs Bn g B m : Nat) (s : ByteArray) (hm1 : 1 ≤ m) (hm2 : m ≤ 16) (hms : m ≤ s.size) (hss : s.size ≤ 20000)
    (w : World) (hg : g < w.heap.size) (hB : B < w.heap.size) (hsg : Bs ≠ g) (hsB : Bs ≠ B) (hng : Bn ≠ g) (hnB : Bn ≠ B) (hBs : Boxed w Bs 9 (.string s)) (hBn : Boxed w Bn 2 (.int .i64 (m : Int))) :
    SeqStopsK Fence.wide n Try.prog 95 #[.pointer (some ⟨Bs, 0, none⟩), .pointer (some ⟨Bn, 0, none⟩)] (fun x : Int => #[Value.int .i64 x]) (KeepC g B) (fun ys => ys = rollsN s m (s.size + 1 - m)) (fun pre => ∃ k, k ≤ s.size - m ∧ pre = rollsN s m (k + 1)) (s.size + 1 - m) w :=
  fun l J Jx W hW hJ _ hY h0 => windows1_in n hn l Bs Bn g B m s hm1 hm2 hms hss J Jx W (Nat.lt_of_lt_of_le hg hW.size) (Nat.lt_of_lt_of_le hB hW.size) hsg hsB hng hnB hJ hY ((hW.block Bs hBs.lt).trans hBs) ((hW.block Bn hBn.lt).trans hBn) h0

set_option maxRecDepth 100000 in
set_option maxHeartbeats 4000000 in
theorem implRolls_in (s : ByteArray) (m : Nat) (w : World) (hm1 : 1 ≤ m) (hm2 : m ≤ 16) (hms : m ≤ s.size) (hss : s.size ≤ 20000) :
    Calls Try.prog 39 #[.string s, .int .i64 (m : Int)] w fun e w' => ∃ v, e = .returned v ∧ w'.ownsRow w.heap.size 2 1 v (s.size + 1 - m) (cellsInt64S (rollsN s m (s.size + 1 - m))) ∧ Below w.heap.size w w' := by
  obtain ⟨i0, hi, hz0, hz1, hz2⟩ := info_parts Try.info64
  refine (callsIn_wide (n := 4)).1 ?_
  refine callsIn_of_wp_marks Try.func39 rfl trivial ?_ rfl
  simp only [Try.ntmps39, List.size_toArray, List.length_cons, List.length_nil, Nat.reduceAdd, Nat.reduceSub, Array.replicate_succ, Array.replicate_zero, List.push_toArray, List.append_toArray, List.nil_append, List.cons_append]
  gi_wp2_with (first
    | (gi_at_make; refine wpListIn_make_own _ rfl _ _ 29 rfl w.heap.size 2 i0 (.int .i64 0) 1 Try.underlying29 hi hz0 hz1 .i64 .i64 _ (s.size + 1 - m) rfl rfl (by omega) (by rw [hz2]; omega) (by unfold maxLen; omega) (Nat.le_refl _) ?_; intro w1 hown1 hgrow1)
    | (refine ⟨trivial, ?_⟩; gi_at_call 82; refine (callsIn_wide.2 (windows_in s (m : Int) _)).mono ?_; rintro e w2 ⟨rfl, hw2⟩; replace hw2 := hw2.symm; subst hw2))
  have hg1 : w.heap.size < w1.heap.size := by
    rcases hown1.2 with ⟨h, _⟩ | ⟨g, cap, cur, e, _, hgb, _⟩
    · cases h
    · cases e
      exact (Array.getElem?_eq_some_iff.1 hgb).1
  have bL := Boxed.new w1 29 (.slice (some ⟨w.heap.size, 0, none⟩) 0 (s.size + 1 - m))
  have bS := Boxed.new (w1.alloc (.cells #[.slice (some ⟨w.heap.size, 0, none⟩) 0 (s.size + 1 - m)] 29)) 9 (.string s)
  have bN := Boxed.new ((w1.alloc (.cells #[.slice (some ⟨w.heap.size, 0, none⟩) 0 (s.size + 1 - m)] 29)).alloc (.cells #[.string s] 9)) 2 (.int .i64 (m : Int))
  rw [World.size_alloc] at bS
  rw [World.size_alloc, World.size_alloc] at bN
  have hB0 : Below w.heap.size w (((w1.alloc (.cells #[.slice (some ⟨w.heap.size, 0, none⟩) 0 (s.size + 1 - m)] 29)).alloc (.cells #[.string s] 9)).alloc (.cells #[.int .i64 (m : Int)] 2)) := ((((Below.refl _ w).grown hgrow1 (Nat.le_refl _) (fun k e => by cases e)).alloc (by omega) _).alloc (by simp; omega) _).alloc (by simp; omega) _
  refine wpIn_rangeFunc_ownG rfl (by omega) (gf := 95) (lb := #[.pointer (some ⟨w1.heap.size + 1, 0, none⟩), .pointer (some ⟨w1.heap.size + 1 + 1, 0, none⟩)]) rfl trivial (enters_of Try.func95 (by kernel_rfl) rfl)
    (windows_stops 3 (by omega) (w1.heap.size + 1) (w1.heap.size + 1 + 1) w.heap.size w1.heap.size m s hm1 hm2 hms hss _ (by simp; omega) (by simp; omega) (by omega) (by omega) (by omega) (by omega) (bS.alloc _) bN) (fun h k => h.trans k) (fun W l o o' _ h hc _ => keepC_put _ _ W l o o' h hc) (Below.refl _ _) (fun _ => rfl)
    (fun pre W => (∃ v, Boxed W w1.heap.size 29 v ∧ W.ownsRow w.heap.size 2 1 v pre.length (pre.map (Value.int .i64)) ∧ v = .slice (some ⟨w.heap.size, 0, none⟩) pre.length (s.size + 1 - m)) ∧ Below w.heap.size w W)
    (fun _ _ _ => False)
    (OwnFrom.and (Own.from (holdsRow_own w.heap.size w1.heap.size 29 2 1 (fun pre : List Int => pre.length) (fun pre => pre.map (Value.int .i64)) (fun pre v => v = .slice (some ⟨w.heap.size, 0, none⟩) pre.length (s.size + 1 - m))) _) (ownFrom_below (Nat.le_refl _) (by simp; omega)))
    (fun _ _ _ _ _ hs _ _ => hs)
    ⟨⟨_, (bL.alloc _).alloc _, ((hown1.alloc _).alloc _).alloc _, rfl⟩, hB0⟩
    (fun x => { tmps := #[.string s, .int .i64 (m : Int), undef, undef, .slice none 0 0, .pointer (some ⟨w1.heap.size, 0, none⟩), .int .i64 x, .int .i64 (m : Int), .bool (decide ((m : Int) < 1)), .bool (decide ((m : Int) < 1)), .int .i64 (m : Int),
      .bool (decide (16 < (m : Int))), .bool (decide ((m : Int) < 1) || decide (16 < (m : Int))), .bool (decide ((m : Int) < 1) || decide (16 < (m : Int))), .string s, .int .i64 (s.size : Int), .int .i64 (m : Int), .bool false,
      .bool (decide ((m : Int) < 1) || decide (16 < (m : Int))), .bool (decide ((m : Int) < 1) || decide (16 < (m : Int))), .string s, .int .i64 (s.size : Int), .bool (decide (20000 < (s.size : Int))), .bool (decide ((m : Int) < 1) || decide (16 < (m : Int)) || decide (20000 < (s.size : Int))),
      .string s, .int .i64 (s.size : Int), .int .i64 (m : Int), .int .i64 ((s.size : Int) - (m : Int)), .int .i64 ((s.size : Int) - (m : Int) + 1), .slice (some ⟨w.heap.size, 0, none⟩) 0 (s.size + 1 - m), .string s, .int .i64 (m : Int),
      .func (.func 95) #[] #[.pointer (some ⟨w1.heap.size + 1, 0, none⟩), .pointer (some ⟨w1.heap.size + 1 + 1, 0, none⟩)], .int .i64 x, undef, undef, undef, undef, undef], defers := [] }) ?assign ?body ?done ?stop
  case assign =>
    intro l x W K hK
    gi_wp2
    exact hK
  case body =>
    rintro l pre x W ⟨⟨v, hv, hrow, rfl⟩, hB⟩ hlt
    have hc := hv.cell
    gi_wp2_with (gi_at_builtin; refine wpListIn_append_fits _ rfl _ _ 29 rfl w.heap.size 2 i0 1 Try.underlying29 hi hz1 w.heap.size pre.length (s.size + 1 - m) _ rfl (hrow.alloc _) ⟨W.heap.size, 0, none⟩ 1 1 [.int .i64 x] rfl rfl (cell_one_new _ _ _) (by simp [Value.oneCell']) (by omega) ?_; intro w3 hown' hgrow; obtain ⟨hv1, hv2, hr2, hk2, hb2⟩ := hv.appended (by decide) hrow hB.size (by omega) hown' hgrow; have hc1 := hv1.cell; have hf1 := hv1.frozen)
    exact ⟨hk2.from _, keepC_grown (grown_trans (World.grownBy_alloc W _ _) hgrow) (grownBy_setCell' w3 _ _), ⟨_, hv2, by simpa using hr2, by simp⟩, hB.trans hb2⟩
  case done =>
    rintro D ys W hD rfl ⟨⟨v, hv, hrow, rfl⟩, hB⟩ hK
    have hc := hv.cell
    rw [rollsN_len] at hrow hc hv
    gi_wp2
    refine ⟨by simp, .inl ⟨_, _, rfl, run_takeDeferred hK, ?_⟩⟩
    exact ⟨_, results_tmp rfl _ _ _, _, rfl, ownsRow_putObj hrow _ hK rfl, hB.trans (belowK_b (w := w) (Nat.le_refl _) W D _ _ (by simp at hD; omega) hK rfl rfl)⟩
  case stop =>
    rintro D c pre W _ _ h _
    exact h.elim
theorem implRolls_any (s : ByteArray) (n : Int) (w : World) (hs : s.size ≤ 9223372036854775807) (hn0 : -9223372036854775808 ≤ n) (hn1 : n ≤ 9223372036854775807) :
    Calls Try.prog 39 #[.string s, .int .i64 n] w fun e w' => ∃ v, e = .returned v ∧ w'.ownsRow w.heap.size 2 1 v (rollsT s n).length (cellsInt64S (rollsT s n)) ∧ Below w.heap.size w w' := by
  have hnil : rollsT s n = [] → (Calls Try.prog 39 #[.string s, .int .i64 n] w fun e w' => e = .returned (.slice none 0 0) ∧ w' = w) →
      Calls Try.prog 39 #[.string s, .int .i64 n] w fun e w' => ∃ v, e = .returned v ∧ w'.ownsRow w.heap.size 2 1 v (rollsT s n).length (cellsInt64S (rollsT s n)) ∧ Below w.heap.size w w' := fun e h => by
    rw [e]
    exact h.mono fun e w' ⟨he, hw⟩ => by subst hw; exact ⟨_, he, World.ownsRow_nil _ _ _ _, Below.refl _ _⟩
  by_cases ha : n < 1
  · refine hnil (by unfold rollsT; rw [if_neg (by omega)]) ?_
    clear hnil
    go_enter Try.func39, Try.ntmps39
    go_wp2
    go_ret
    exact ⟨rfl, rfl⟩
  by_cases hb : 16 < n
  · refine hnil (by unfold rollsT; rw [if_neg (by omega)]) ?_
    clear hnil
    go_enter Try.func39, Try.ntmps39
    go_wp2
    go_ret
    exact ⟨rfl, rfl⟩
  by_cases hc : (s.size : Int) < n
  · refine hnil (by unfold rollsT; rw [show s.size + 1 - n.toNat = 0 by omega]; simp [rollsN]) ?_
    clear hnil
    go_enter Try.func39, Try.ntmps39
    go_wp2
    go_ret
    exact ⟨rfl, rfl⟩
  by_cases hd : 20000 < (s.size : Int)
  · refine hnil (by unfold rollsT; rw [if_neg (by omega)]) ?_
    clear hnil
    go_enter Try.func39, Try.ntmps39
    go_wp2
    go_ret
    exact ⟨rfl, rfl⟩
  obtain ⟨m, rfl⟩ := Int.eq_ofNat_of_zero_le (show 0 ≤ n by omega)
  have e : rollsT s (m : Int) = rollsN s m (s.size + 1 - m) := by unfold rollsT; rw [if_pos ⟨by omega, by omega⟩, Int.toNat_natCast]
  rw [e, rollsN_len]
  exact implRolls_in s m w (by omega) (by omega) (by omega) (by omega)

end Go.Proofs.Ytndecefcnalgdaa
