/- CONTRACTS: impl.windows and the iterator that it hands back; impl.Rolls, which ranges over it. -/
import Derived.RangeFuncBox
import Derived.RangeFuncNested
import Derived.RangeFuncBound
import Derived.RangeFuncCalls
import Derived.RangeFuncLeaves
import Derived.Shelf.Abstract
import Derived.Shelf.RegionOpen
import Derived.OwnWalkIn
import Derived.TacticsInMore
import Derived.LoopNIn
import Derived.LoopIn
import Derived.Maps.AppendAt
import Derived.Test.YtndecefcnalgdabRollMath
namespace Go.Proofs.Ytndecefcnalgdab
open Go.RowKit Go.Shelf

attribute [local go_sem] Oper.semAt_some

/-- whatever is cells stays, but for the blocks g and B -/
def KeepC (g B : Nat) (A A' : World) : Prop := ∀ b o, b ≠ g → b ≠ B → A.heap[b]? = some o → o.isCells = true → A'.heap[b]? = some o
theorem KeepC.trans {g B : Nat} {A A' A'' : World} (h : KeepC g B A A') (k : KeepC g B A' A'') : KeepC g B A A'' := fun b o hg hB ho hc => k b o hg hB (h b o hg hB ho hc) hc
theorem keepC_put (g B : Nat) (W : World) (l : Nat) (o o' : Obj) (h : W.heap[l]? = some o) (hc : o.isCells = false) : KeepC g B W (W.putObj l o') := fun b u _ _ hu huc => by
  have hne : b ≠ l := fun e => by
    subst e
    rw [h] at hu
    cases hu
    rw [hc] at huc
    cases huc
  have := (grownBy_putObj' W l o').block b (Array.getElem?_eq_some_iff.1 hu).1 (fun e => hne (by cases e; rfl))
  exact this.trans hu
theorem keepC_boxed {g B b : Nat} {A A' : World} {t : TypeId} {v : Value} (k : KeepC g B A A') (h : Boxed A b t v) (hg : b ≠ g) (hB : b ≠ B) : Boxed A' b t v := k b _ hg hB h rfl

theorem keepC_grown {g B : Nat} {W W1 W2 : World} (h1 : W.grownBy W1 (some g)) (h2 : W1.grownBy W2 (some B)) : KeepC g B W W2 := fun b o hg hB ho _ => by
  have hlt := (Array.getElem?_eq_some_iff.1 ho).1
  have e1 := h1.block b hlt (fun e => hg (by cases e; rfl))
  have e2 := h2.block b (Nat.lt_of_lt_of_le hlt h1.size) (fun e => hB (by cases e; rfl))
  exact e2.trans (e1.trans ho)
theorem bytesRow_size (s : ByteArray) (cap : Nat) (h : s.size ≤ cap) : (bytesRow s cap).size = cap := by
  have e : s.data.size = s.size := rfl
  simp [bytesRow, e]; omega
theorem windows_in (s : ByteArray) (m : Int) (w : World) :
    Calls Try.prog 36 #[.string s, .int .i64 m] w fun e w' => e = .returned (.func (.func 40) #[] #[.pointer (some ⟨w.heap.size, 0, none⟩), .pointer (some ⟨w.heap.size + 1, 0, none⟩)]) ∧ w' = (w.alloc (.cells #[.string s] 9)).alloc (.cells #[.int .i64 m] 2) := by
  go_enter Try.func36, Try.ntmps36
  go_wp2
  go_ret
  exact ⟨by simp, rfl⟩

set_option maxRecDepth 100000 in
set_option maxHeartbeats 4000000 in
theorem windows1_in (n : Nat) (hn : 1 ≤ n) (l Bs Bn g B m : Nat) (s : ByteArray) (hm1 : 1 ≤ m) (hm2 : m ≤ 16) (hms : m ≤ s.size) (hss : s.size ≤ 20000)
    (J Jx : List Int → World → Prop) (W : World) (hg : g < W.heap.size) (hB : B < W.heap.size) (hsg : Bs ≠ g) (hsB : Bs ≠ B) (hng : Bn ≠ g) (hnB : Bn ≠ B) (hJ : AbidesFrom W.heap.size J)
    (hY : ∀ pre x W1, J pre W1 → pre.length < s.size + 1 - m → YieldAt Fence.wide (n - 1) Try.prog l #[.int .i64 x] W1 fun e W' =>
      (e = .returned (.bool true) ∧ J (pre ++ [x]) W' ∧ KeepC g B W1 W') ∨ (e = .returned (.bool false) ∧ Jx (pre ++ [x]) W'))
    (hBs : Boxed W Bs 9 (.string s)) (hBn : Boxed W Bn 2 (.int .i64 (m : Int))) (h0 : J [] W) :
    CallsIn Fence.wide n Try.prog 40 #[.func (.yield l) #[] #[], .pointer (some ⟨Bs, 0, none⟩), .pointer (some ⟨Bn, 0, none⟩)] W fun e W' => (∃ v, e = .returned v) ∧
      ((∃ ys, ys = rollsN s m (s.size + 1 - m) ∧ J ys W') ∨ (∃ pre, (∃ k, k ≤ s.size - m ∧ pre = rollsN s m (k + 1)) ∧ Jx pre W')) := by
  have hcs := hBs.cell
  have hcn := hBn.cell
  have hsl1 : ∀ W : World, (Instr.slice 9 (.string s) none (some (.int .i64 (m : Int))) none).run Try.prog W = .ok (.string (s.extract 0 m)) W := fun W => by
    rw [run_slice_string_h W 9 s Try.underlying9 .i64 _ (by omega) (by omega), Int.toNat_natCast]
  have hsl2 : ∀ W : World, (Instr.slice 9 (.string s) (some (.int .i64 (m : Int))) none none).run Try.prog W = .ok (.string (s.extract m s.size)) W := fun W => by
    rw [run_slice_string_l W 9 s Try.underlying9 .i64 _ (by omega) (by omega), Int.toNat_natCast]
  have hfw := first_window s m
  have hts : (s.extract 0 m).size ≤ 9223372036854775807 := by rw [ByteArray.size_extract]; omega
  obtain ⟨t0, ht0⟩ : ∃ t0, t0 = s.extract 0 m := ⟨_, rfl⟩
  rw [← ht0] at hsl1 hfw hts
  clear ht0
  have hbx := byts_extract s m s.size
  have hus : (s.extract m s.size).size = s.size - m := by rw [ByteArray.size_extract]; omega
  obtain ⟨t, ht⟩ : ∃ t, t = s.extract m s.size := ⟨_, rfl⟩
  rw [← ht] at hsl2 hbx hus
  clear ht
  have hcv := run_bytes_of_string (P := Try.prog) W 9 22 5 t Try.underlying9 Try.underlying22 Try.underlying5
  refine callsIn_of_wp Try.func40 rfl trivial ?_ rfl
  simp only [Try.ntmps40, List.size_toArray, List.length_cons, List.length_nil, Nat.reduceAdd, Nat.reduceSub, Array.replicate_succ, Array.replicate_zero, List.push_toArray, List.append_toArray, List.nil_append, List.cons_append]
  have hcap : t.size ≤ grownCap W t.size 0 5 := grownCap_ge W t.size 0 5
  have hcc : ∀ k, k < t.size → ((bytesRow t (grownCap W t.size 0 5)) : Array Value)[k]? = some (.int .u8 ((byts t).getD k 0)) := fun k hk => by
    rw [byts_get t k hk]
    exact bytesRow_at t _ k hk
  have hcz := bytesRow_size t (grownCap W t.size 0 5) hcap
  obtain ⟨cap, hcp⟩ : ∃ cap, cap = grownCap W t.size 0 5 := ⟨_, rfl⟩
  rw [← hcp] at hcap hcc hcz hcv
  clear hcp
  obtain ⟨cs, hce⟩ : ∃ cs, cs = bytesRow t cap := ⟨_, rfl⟩
  rw [← hce] at hcc hcz hcv
  clear hce
  rw [hcz] at hcv
  obtain ⟨W1, hW1⟩ : ∃ W1, W1 = W.drew.alloc (.cells cs 5 (cap, cap + 1)) := ⟨_, rfl⟩
  have hgr : W.grownBy W1 none := by rw [hW1]; exact grown_trans (w := W.drew) ⟨rfl, rfl, rfl, Nat.le_refl _, fun _ _ _ => rfl⟩ (World.grownBy_alloc W.drew _ _)
  have hrow : W1.heap[W.heap.size]? = some (.cells cs 5 (cap, cap + 1)) := by rw [hW1]; exact World.alloc_heap_new W.drew _
  have hJ1 := hJ _ _ _ _ h0 hgr (by simp)
  have hB1s := hBs.kept hgr (by simp)
  have hB1n := hBn.kept hgr (by simp)
  rw [← hW1] at hcv
  clear hW1 hgr
  gi_wp2_with (refine ⟨trivial, ?_⟩; gi_at_call 41; refine (callsIn_wide.2 (implRoll_any t0 _ hts)).mono ?_; rintro e w' ⟨rfl, hw'⟩; replace hw' := hw'.symm; subst hw')
  gi_loopw [4, 16] (fun h i wr => ∃ k : Nat, k ≤ s.size - m ∧ h = .int .i64 (wroll s m k) ∧ i = .int .i64 k ∧ J (rollsN s m k) wr ∧ Boxed wr Bs 9 (.string s) ∧ Boxed wr Bn 2 (.int .i64 (m : Int)) ∧ wr.heap[W.heap.size]? = some (.cells cs 5 (cap, cap + 1))) (fun _ i _ => s.size - m - (intOf i).toNat)
  case atStart => exact ⟨0, Nat.zero_le _, rfl, rfl, hJ1, hB1s, hB1n, hrow⟩
  case round =>
    obtain ⟨k, hk, rfl, rfl, hJk, hbs, hbn, hro⟩ := hrel
    by_cases hlt : k < s.size - m
    · have hck : wr.cell? ⟨W.heap.size, k, none⟩ = some (.int .u8 ((byts t).getD k 0)) := by
        rw [cell_of_row wr W.heap.size k _ _ _ hro]
        exact hcc k (by omega)
      have htk : (byts t).getD k 0 = (byts s).getD (k + m) 0 := by
        rw [hbx, take_getD _ _ _ hlt, List.getD, List.getElem?_drop, Nat.add_comm m k]
        rfl
      rw [htk] at hck
      obtain ⟨fn, tmps, assign, body, hy, hR⟩ := hY _ (wroll s m k) wr hJk (by rw [rollsN_len]; omega)
      have hbr := byts_range s (k + m)
      have hbr0 := byts_range s k
      have hix := str_at s k (by omega)
      have hwn := wroll_next s m k hm1 (by omega)
      have hwi := wroll_in s m k
      obtain ⟨x, hx⟩ : ∃ x, x = (byts s).getD k 0 := ⟨_, rfl⟩
      rw [← hx] at hbr0 hix hwn
      obtain ⟨y, hyy⟩ : ∃ y, y = (byts s).getD (k + m) 0 := ⟨_, rfl⟩
      rw [← hyy] at hck hbr hwn
      obtain ⟨h, hh⟩ : ∃ h, h = wroll s m k := ⟨_, rfl⟩
      rw [← hh] at hwn hwi hy hR
      have hsucc := rollsN_succ s m k
      rw [← hh] at hsucc ⊢
      clear hx hyy hh htk hY hcc
      gi_wp2
      refine hR.mono ?_
      rintro e W3 (⟨rfl, hJ3, hk3⟩ | ⟨rfl, hJx3⟩)
      · have hbs3 := keepC_boxed hk3 hbs hsg hsB
        have hbn3 := keepC_boxed hk3 hbn hng hnB
        have hro3 := hk3 _ _ (by omega) (by omega) hro rfl
        have hcs3 := hbs3.cell
        have hcn3 := hbn3.cell
        clear hcs hcn hck hJk hbs hbn hro
        gi_wp2
        have hok : okR h x y (m : Int) := ⟨hwi, hbr0, hbr, by omega, by omega⟩
        refine wpIn_wide.2 ?_
        go_quiet (first | (go_at_call 42; refine (implRolled_in h x y m _ hok).mono ?_; rintro e w2 ⟨rfl, rfl⟩; exact ⟨rfl, ⟨_, rfl⟩⟩))
        have hgq : W3.grownBy (W3.drewN nq) none := ⟨rfl, rfl, rfl, Nat.le_refl _, fun _ _ _ => rfl⟩
        have hJ4 := hJ _ _ _ _ hJ3 hgq (by simp)
        have hbs4 := hbs3.kept hgq (by simp)
        have hbn4 := hbn3.kept hgq (by simp)
        have hro4 : (W3.drewN nq).heap[W.heap.size]? = some (.cells cs 5 (cap, cap + 1)) := hro3
        rw [hwn]
        rw [← hsucc] at hJ4
        clear hJ3 hcs3 hcn3 hbs3 hbn3 hro3 hix hbr hbr0 hwn hsucc hok hy hR
        gi_wp2
        go_roundw
        case rel => exact ⟨k + 1, by omega, rfl, by go_num, hJ4, hbs4, hbn4, hro4⟩
        case measure => simp [intOf]; omega
      · gi_wp2
        refine bodyPost_ret (results_none rfl _ _ _) rfl ?_
        exact ⟨⟨_, rfl⟩, .inr ⟨_, ⟨k, by omega, hsucc.symm⟩, hJx3⟩⟩
    · obtain rfl : k = s.size - m := by omega
      obtain ⟨fn, tmps, assign, body, hy, hR⟩ := hY _ (wroll s m (s.size - m)) wr hJk (by rw [rollsN_len]; omega)
      have hsucc := rollsN_succ s m (s.size - m)
      rw [show s.size - m + 1 = s.size + 1 - m by omega] at hsucc
      gi_wp2
      refine hR.mono ?_
      rintro e W3 (⟨rfl, hJ3, hk3⟩ | ⟨rfl, hJx3⟩)
      · gi_wp2
        go_end0
        exact ⟨⟨_, rfl⟩, .inl ⟨_, rfl, by rw [hsucc]; exact hJ3⟩⟩
      · gi_wp2
        go_end0
        exact ⟨⟨_, rfl⟩, .inr ⟨_, ⟨s.size - m, Nat.le_refl _, by rw [show s.size - m + 1 = s.size + 1 - m by omega]; exact hsucc.symm⟩, hJx3⟩⟩
/-- what windows hands back goes through the windows' numbers, whatever the body does to the blocks g and B -/
theorem windows_stops (n : Nat) (hn : 1 ≤ n) (Bs Bn g B m : Nat) (s : ByteArray) (hm1 : 1 ≤ m) (hm2 : m ≤ 16) (hms : m ≤ s.size) (hss : s.size ≤ 20000)
    (w : World) (hg : g < w.heap.size) (hB : B < w.heap.size) (hsg : Bs ≠ g) (hsB : Bs ≠ B) (hng : Bn ≠ g) (hnB : Bn ≠ B) (hBs : Boxed w Bs 9 (.string s)) (hBn : Boxed w Bn 2 (.int .i64 (m : Int))) :
    SeqStopsK Fence.wide n Try.prog 40 #[.pointer (some ⟨Bs, 0, none⟩), .pointer (some ⟨Bn, 0, none⟩)] (fun x : Int => #[Value.int .i64 x]) (KeepC g B) (fun ys => ys = rollsN s m (s.size + 1 - m)) (fun pre => ∃ k, k ≤ s.size - m ∧ pre = rollsN s m (k + 1)) (s.size + 1 - m) w :=
  fun l J Jx W hW hJ _ hY h0 => windows1_in n hn l Bs Bn g B m s hm1 hm2 hms hss J Jx W (Nat.lt_of_lt_of_le hg hW.size) (Nat.lt_of_lt_of_le hB hW.size) hsg hsB hng hnB hJ hY ((hW.block Bs hBs.lt).trans hBs) ((hW.block Bn hBn.lt).trans hBn) h0


end Go.Proofs.Ytndecefcnalgdab
