/- CONTRACTS: slices.Chunk over texts, four by four, and the iterator that it hands back. -/
import Derived.RangeFuncBox
import Derived.RangeFuncNested
import Derived.RangeFuncBound
import Derived.RangeFuncCalls
import Derived.RangeFuncLeaves
import Derived.Shelf.Abstract
import Derived.Shelf.RegionOpen
import Derived.OwnWalkIn
import Derived.TacticsInMore
import Derived.LoopNIn
import Derived.LoopIn
import Derived.Maps.AppendAt
import Derived.Test.YtdiammehnakchabTreeG
namespace Go.Proofs.Ytdiammehnakchab
open Go.RowKit Go.Shelf

attribute [local go_sem] Oper.semAt_some
set_option linter.unusedVariables false

/-- the boxes k1 and k2 stay -/
def KeepP (k1 k2 : Nat) (A A' : World) : Prop := ∀ b o, (b = k1 ∨ b = k2) → A.heap[b]? = some o → o.isCells = true → A'.heap[b]? = some o
theorem KeepP.trans {k1 k2 : Nat} {A A' A'' : World} (h : KeepP k1 k2 A A') (k : KeepP k1 k2 A' A'') : KeepP k1 k2 A A'' := fun b o hb ho hc => k b o hb (h b o hb ho hc) hc
theorem keepP_put (k1 k2 : Nat) (W : World) (l : Nat) (o o' : Obj) (h : W.heap[l]? = some o) (hc : o.isCells = false) : KeepP k1 k2 W (W.putObj l o') := fun b u _ hu huc => by
  have hne : b ≠ l := fun e => by
    subst e
    rw [h] at hu
    cases hu
    rw [hc] at huc
    cases huc
  have := (grownBy_putObj' W l o').block b (Array.getElem?_eq_some_iff.1 hu).1 (fun e => hne (by cases e; rfl))
  exact this.trans hu
theorem keepP_boxed1 {k1 k2 : Nat} {A A' : World} {t : TypeId} {v : Value} (k : KeepP k1 k2 A A') (h : Boxed A k1 t v) : Boxed A' k1 t v := k k1 _ (Or.inl rfl) h rfl
theorem keepP_boxed2 {k1 k2 : Nat} {A A' : World} {t : TypeId} {v : Value} (k : KeepP k1 k2 A A') (h : Boxed A k2 t v) : Boxed A' k2 t v := k k2 _ (Or.inr rfl) h rfl

/-- the places of four by four -/
abbrev Fours (n : Nat) : Type := {x : Nat // 4 * x < n}
def fourV (b off n x : Nat) : Value := .slice (some ⟨b, off + 4 * x, none⟩) (min 4 (n - 4 * x)) (min 4 (n - 4 * x))
theorem chunk_in (ao : Option Addr) (n cap : Nat) (w : World) :
    Calls Try.prog 169 #[.slice ao n cap, .int .i64 4] w fun e w' => e = .returned (.func (.func 191) #[] #[.pointer (some ⟨w.heap.size, 0, none⟩), .pointer (some ⟨w.heap.size + 1, 0, none⟩)]) ∧ w' = (w.alloc (.cells #[.slice ao n cap] 44)).alloc (.cells #[.int .i64 4] 3) := by
  go_enter Try.func169, Try.ntmps169
  go_wp2
  go_ret
  exact ⟨by simp, rfl⟩
theorem elemS : Try.prog.elem 44 = 9 := by kernel_rfl
theorem sizeS (W : World) : (sizeOf 9).run Try.prog W = .ok 1 W := by
  obtain ⟨i0, hi, hz0, hz1, hz2⟩ := info_parts Try.infoS
  simp [sizeOf, typeInfo, hi, hz1]
theorem from_four (b off n cap k : Nat) (hk : 4 * k < n) (hcap : n ≤ cap) (W : World) :
    (Instr.slice 44 (.slice (some ⟨b, off, none⟩) n cap) (some (.int .i64 ((4 * k : Nat) : Int))) none none).run Try.prog W = .ok (.slice (some ⟨b, off + 4 * k, none⟩) (n - 4 * k) (cap - 4 * k)) W := by
  rw [run_slice_l W 44 _ n cap (by rw [elemS]; exact Try.underlying44) .i64 _ (by omega) (by omega), elemS, sizeS]
  have h1 : ¬ cap = 4 * k := by omega
  simp only [Result.andThen, sliced, Int.toNat_natCast, if_neg h1, Option.map_some, Addr.add_lit, Nat.mul_one]
theorem four_cut (b off n cap k q : Nat) (hq : 1 ≤ q) (hk : 4 * k + q ≤ n) (hcap : n ≤ cap) (W : World) :
    (Instr.slice 44 (.slice (some ⟨b, off, none⟩) n cap) (some (.int .i64 ((4 * k : Nat) : Int))) (some (.int .i64 ((4 * k + q : Nat) : Int))) (some (.int .i64 ((4 * k + q : Nat) : Int)))).run Try.prog W = .ok (.slice (some ⟨b, off + 4 * k, none⟩) q q) W := by
  rw [run_slice_lhm W 44 _ n cap (by rw [elemS]; exact Try.underlying44) .i64 .i64 .i64 _ _ _ (by omega) (by omega) (by omega) (by omega), elemS, sizeS]
  have h1 : ¬ 4 * k + q = 4 * k := by omega
  simp only [Result.andThen, sliced, Int.toNat_natCast, if_neg h1, Option.map_some, Addr.add_lit, Nat.mul_one]
  rw [show 4 * k + q - 4 * k = q by omega]
set_option maxRecDepth 100000 in
set_option maxHeartbeats 4000000 in
theorem chunk1_in (N : Nat) (hN : 1 ≤ N) (l Bs Bn b off n cap : Nat) (hn1 : 1 ≤ n) (hn2 : n ≤ 4096) (hcap : n ≤ cap)
    (J Jx : List (Fours n) → World → Prop) (W : World) (hJ : AbidesFrom W.heap.size J)
    (hY : ∀ pre x W1, J pre W1 → pre.length < (n + 3) / 4 → YieldAt Fence.wide (N - 1) Try.prog l #[fourV b off n x.1] W1 fun e W' =>
      (e = .returned (.bool true) ∧ J (pre ++ [x]) W' ∧ KeepP Bs Bn W1 W') ∨ (e = .returned (.bool false) ∧ Jx (pre ++ [x]) W'))
    (hBs : Boxed W Bs 44 (.slice (some ⟨b, off, none⟩) n cap)) (hBn : Boxed W Bn 3 (.int .i64 4)) (h0 : J [] W) :
    CallsIn Fence.wide N Try.prog 191 #[.func (.yield l) #[] #[], .pointer (some ⟨Bs, 0, none⟩), .pointer (some ⟨Bn, 0, none⟩)] W fun e W' => (∃ v, e = .returned v) ∧
      ((∃ ys : List (Fours n), ys.map (·.1) = List.range ((n + 3) / 4) ∧ J ys W') ∨ (∃ pre : List (Fours n), True ∧ Jx pre W')) := by
  refine callsIn_of_wp Try.func191 rfl trivial ?_ rfl
  simp only [Try.ntmps191, List.size_toArray, List.length_cons, List.length_nil, Nat.reduceAdd, Nat.reduceSub, Array.replicate_succ, Array.replicate_zero, List.push_toArray, List.append_toArray, List.nil_append, List.cons_append]
  gi_wp2
  gi_loopw [4] (fun i wr => ∃ k : Nat, k ≤ (n + 3) / 4 ∧ i = .int .i64 ((4 * k : Nat) : Int) ∧ (∃ pre : List (Fours n), pre.map (·.1) = List.range k ∧ J pre wr) ∧ Boxed wr Bs 44 (.slice (some ⟨b, off, none⟩) n cap) ∧ Boxed wr Bn 3 (.int .i64 4)) (fun i _ => n + 4 - (intOf i).toNat)
  case atStart => exact ⟨0, Nat.zero_le _, rfl, ⟨[], rfl, h0⟩, hBs, hBn⟩
  case round =>
    obtain ⟨k, hk, rfl, ⟨pre, hpre, hJk⟩, hbs, hbn⟩ := hrel
    have hcs := hbs.cell
    have hcn := hbn.cell
    have hpl : pre.length = k := by have := congrArg List.length hpre; simpa using this
    by_cases hlt : 4 * k < n
    · obtain ⟨q, hq⟩ : ∃ q : Nat, q = min 4 (n - 4 * k) := ⟨_, rfl⟩
      have hq1 : 1 ≤ q := by omega
      have hmn : (if (((n - 4 * k : Nat) : Int)) < 4 then ((n - 4 * k : Nat) : Int) else 4) = (q : Int) := by split <;> omega
      have hsl1 := from_four b off n cap k hlt hcap
      have hsl2 : ∀ W : World, (Instr.slice 44 (.slice (some ⟨b, off, none⟩) n cap) (some (.int .i64 ((4 * k : Nat) : Int))) (some (.int .i64 (((4 * k : Nat) : Int) + (q : Int)))) (some (.int .i64 (((4 * k : Nat) : Int) + (q : Int))))).run Try.prog W = .ok (.slice (some ⟨b, off + 4 * k, none⟩) q q) W := fun W => by
        have h := four_cut b off n cap k q hq1 (by omega) hcap W
        rwa [show ((4 * k + q : Nat) : Int) = ((4 * k : Nat) : Int) + (q : Int) by omega] at h
      have hfv : fourV b off n k = .slice (some ⟨b, off + 4 * k, none⟩) q q := by unfold fourV; rw [← hq]
      have hgq : ∀ m, wr.grownBy (wr.drewN m) none := fun m => ⟨rfl, rfl, rfl, Nat.le_refl _, fun _ _ _ => rfl⟩
      have HY : Hid (∀ m, YieldAt Fence.wide (N - 1) Try.prog l #[.slice (some ⟨b, off + 4 * k, none⟩) q q] (wr.drewN m) fun e W' =>
          (e = .returned (.bool true) ∧ J (pre ++ [⟨k, hlt⟩]) W' ∧ KeepP Bs Bn (wr.drewN m) W') ∨ (e = .returned (.bool false) ∧ Jx (pre ++ [⟨k, hlt⟩]) W')) := fun m => by
        have h := hY pre ⟨k, hlt⟩ (wr.drewN m) (hJ _ _ _ _ hJk (hgq m) (by simp)) (by rw [hpl]; omega)
        rwa [hfv] at h
      have HP : Hid ((pre ++ [(⟨k, hlt⟩ : Fours n)]).map (·.1) = List.range (k + 1)) := by show _ = _; rw [List.map_append, hpre, List.range_succ]; rfl
      generalize (pre ++ [(⟨k, hlt⟩ : Fours n)]) = pre2 at HY HP
      have hbq : ∀ m, Boxed (wr.drewN m) Bs 44 (.slice (some ⟨b, off, none⟩) n cap) ∧ Boxed (wr.drewN m) Bn 3 (.int .i64 4) := fun m => ⟨hbs.kept (hgq m) (by simp), hbn.kept (hgq m) (by simp)⟩
      have HBQ := Lib.hid hbq
      obtain ⟨i, hi⟩ : ∃ i, i = 4 * k := ⟨_, rfl⟩
      have HI := Lib.hid hi
      have hi4 : ((4 * (k + 1) : Nat) : Int) = (i : Int) + 4 := by omega
      rw [← hi] at hsl1 hsl2 hmn hlt HY ⊢
      obtain ⟨j, hj⟩ : ∃ j, j = n - i := ⟨_, rfl⟩
      rw [← hj] at hmn hsl1
      have hjn : j ≤ n := by omega
      have hiq : i + q ≤ n := by omega
      have hin : i ≤ 4096 := by omega
      clear hY hfv hq hbs hbn hgq hbq hJk hpre hpl hi hj
      gi_wp2
      refine wpIn_wide.2 ?_
      go_quiet (fail)
      obtain ⟨fn, tmps, assign, body, hy, hR⟩ := HY.out nq
      obtain ⟨hbs, hbn⟩ := HBQ.out nq
      generalize wr.drewN nq = wq at hy hR hbs hbn ⊢
      have hcs := hbs.cell
      gi_wp2
      refine hR.mono ?_
      rintro e W3 (⟨rfl, hJ3, hk3⟩ | ⟨rfl, hJx3⟩)
      · have hbs3 := keepP_boxed1 hk3 hbs
        have hbn3 := keepP_boxed2 hk3 hbn
        have hcn3 := hbn3.cell
        clear hcs hcn hbs hbn hy hR
        gi_wp2
        go_roundw
        case rel => exact ⟨k + 1, by omega, by rw [hi4], ⟨pre2, HP.out, hJ3⟩, hbs3, hbn3⟩
        case measure => simp [intOf]; omega
      · gi_wp2
        refine bodyPost_ret (results_none rfl _ _ _) rfl ?_
        exact ⟨⟨_, rfl⟩, .inr ⟨_, trivial, hJx3⟩⟩
    · obtain rfl : k = (n + 3) / 4 := by omega
      obtain ⟨i, hi⟩ : ∃ i, i = 4 * ((n + 3) / 4) := ⟨_, rfl⟩
      have hlt2 : ¬ i < n := by omega
      have hltI : ¬ (i : Int) < (n : Int) := by omega
      rw [← hi]
      clear hi hlt hlt2 hY
      gi_wp2
      go_end0
      exact ⟨⟨_, rfl⟩, .inl ⟨_, hpre, hJk⟩⟩
/-- what Chunk hands back goes through the fours, whatever the body does to all but its two boxes -/
theorem chunk_stops (N : Nat) (hN : 1 ≤ N) (Bs Bn b off n cap : Nat) (hn1 : 1 ≤ n) (hn2 : n ≤ 4096) (hcap : n ≤ cap)
    (w : World) (hBs : Boxed w Bs 44 (.slice (some ⟨b, off, none⟩) n cap)) (hBn : Boxed w Bn 3 (.int .i64 4)) :
    SeqStopsK Fence.wide N Try.prog 191 #[.pointer (some ⟨Bs, 0, none⟩), .pointer (some ⟨Bn, 0, none⟩)] (fun x : Fours n => #[fourV b off n x.1]) (KeepP Bs Bn) (fun ys => ys.map (·.1) = List.range ((n + 3) / 4)) (fun _ => True) ((n + 3) / 4) w :=
  fun l J Jx W hW hJ _ hY h0 => chunk1_in N hN l Bs Bn b off n cap hn1 hn2 hcap J Jx W hJ hY ((hW.block Bs hBs.lt).trans hBs) ((hW.block Bn hBn.lt).trans hBn) h0
end Go.Proofs.Ytdiammehnakchab
