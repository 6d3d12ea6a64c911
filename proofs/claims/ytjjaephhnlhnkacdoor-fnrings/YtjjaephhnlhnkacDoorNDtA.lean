/- CONTRACTS at rows of impl.Dot: number, own (one), how they are reached, place$1, rises. (Written by numg.py.) -/
import Derived.Test.YtjjaephhnlhnkacDoorDotY
import Derived.Test.YtjjaephhnlhnkacDoorCmp
import Derived.Test.YtjjaephhnlhnkacDoorBltg
namespace Go.Proofs.YtjjaephhnlhnkacDoor
open Go.RowKit
set_option linter.unusedVariables false
theorem meth_numberDt (x : Array Value) (w : World) : (method 228 51 (.agg x) "loop.example/g00260/impl.number").run Tryd.prog w = .ok (96, .agg x) w := by kernel_rfl
theorem numberDt_any (x1 : Int) (x2 : Int) (w : World) :
    Calls Tryd.prog 96 #[.agg #[.int .i64 x1, .int .i64 x2]] w fun e w' => e = .returned (.int .i64 x1) ∧ Below w.heap.size w w' := by
  have hb := (Below.refl w.heap.size w).alloc (Nat.le_refl _) (.cells #[.int .i64 x1, .int .i64 x2] 51)
  go_enter Tryd.func96, Tryd.ntmps96
  go_wp2
  go_ret
  exact ⟨rfl, hb⟩
theorem place1Dt_any (x1 : Int) (x2 : Int) (y : Int) (w : World) :
    Calls Tryd.prog 49 #[.agg #[.int .i64 x1, .int .i64 x2], .int .i64 y] w fun e w' => e = .returned (.int .i64 (cmpI x1 y)) ∧ Below w.heap.size w w' := by
  have hb := (Below.refl w.heap.size w).alloc (Nat.le_refl _) (.cells #[.int .i64 x1, .int .i64 x2] 51)
  have mn := fun z W => meth_numberDt z W
  go_enter Tryd.func49, Tryd.ntmps49
  go_wp2_with fail
  refine (numberDt_any x1 x2 _).mono ?_
  rintro e w8 ⟨rfl, hb8⟩
  have hb9 := hb.trans (hb8.mono hb.size)
  clear hb8 hb
  go_wp2_with fail
  refine (compare_any x1 y _).mono ?_
  rintro e w7 ⟨rfl, rfl⟩
  go_wp2
  go_ret
  exact ⟨rfl, hb9⟩
set_option maxHeartbeats 2000000 in
set_option maxRecDepth 100000 in
theorem risesDt_any (va : Value) (l : List Dt) (w : World) (ha : RdG dtf 2 w va l) (hl : l.length ≤ 1048576) :
    Calls Tryd.prog 44 #[va] w fun e w' => e = .returned (.bool (riseN (fun j => (l.getD j dt0).1) l.length)) ∧ Below w.heap.size w w' := by
  have HNO : Hid (∀ i, i < l.length → 0 < i → ¬ (l.getD (i - 1) dt0).1 < (l.getD i dt0).1 → riseN (fun j => (l.getD j dt0).1) l.length = false) := fun i hi h0 h => riseN_no hi h0 h
  have HYES : Hid ((∀ i, i < l.length → 0 < i → (l.getD (i - 1) dt0).1 < (l.getD i dt0).1) → riseN (fun j => (l.getD j dt0).1) l.length = true) := fun h => riseN_iff.2 h
  rcases rdG_cases ha with ⟨h0, ao, cap, rfl⟩ | ⟨hp, b, off, cap, rfl, _, hlt, hc⟩
  · subst h0
    have e : riseN (fun j => (([] : List Dt).getD j dt0).1) ([] : List Dt).length = true := rfl
    rw [e]
    clear HNO HYES ha
    go_enter Tryd.func44, Tryd.ntmps44
    go_wp2
    refine wp_loop_rounds 1 ?_
    rw [rounds_succ]
    go_wp2
    go_ret
    exact ⟨rfl, Below.refl _ _⟩
  have HA : Hid (CellsG dtf 2 b off l w) := hc
  generalize riseN (fun j => (l.getD j dt0).1) l.length = r at HNO HYES ⊢
  obtain ⟨n, hn⟩ : ∃ n, n = l.length := ⟨_, rfl⟩
  rw [← hn] at hp hl HNO HYES ⊢
  have HN : Hid (n = l.length) := hn
  clear hc ha hn
  have mn := fun z W => meth_numberDt z W
  go_enter Tryd.func44, Tryd.ntmps44
  go_wp2
  go_loopw [3] (fun i wr => ∃ k : Nat, 1 ≤ k ∧ k ≤ n + 1 ∧ i = .int .i64 k ∧ Hid (Below w.heap.size w wr) ∧ Hid (∀ i, i < k → i < n → 0 < i → (l.getD (i - 1) dt0).1 < (l.getD i dt0).1)) (fun i _ => n + 1 - (intOf i).toNat)
  case atStart => exact ⟨1, Nat.le_refl _, by omega, rfl, Below.refl _ _, fun i h1 h2 h3 => by omega⟩
  case round =>
    rename World => wr
    obtain ⟨k, hk1, hk, rfl, hb, hok⟩ := hrel
    by_cases hltk : k < n
    focus
      obtain ⟨j, hj⟩ : ∃ j : Nat, (k : Int) - 1 = (j : Int) := ⟨k - 1, by omega⟩
      have hjk : k - 1 = j := by omega
      have hjn : j < n := by omega
      have hs1 := hb.out.size
      have HCB : Hid (∀ w', Below wr.heap.size wr w' → (w'.cell? ⟨b, off + k * 2, none⟩ = some (.int .i64 (l.getD k dt0).1) ∧ w'.cell? ⟨b, off + k * 2 + 1, none⟩ = some (.int .i64 (l.getD k dt0).2)) ∧ (w'.cell? ⟨b, off + j * 2, none⟩ = some (.int .i64 (l.getD j dt0).1) ∧ w'.cell? ⟨b, off + j * 2 + 1, none⟩ = some (.int .i64 (l.getD j dt0).2))) := fun w' hw' => by
        have h1 := cellsG_below HA.out hlt (hb.out.trans (hw'.mono hs1))
        have hx := HN.out
        exact ⟨dt_cells h1 (by omega), dt_cells h1 (by omega)⟩
      have HNk := Lib.hid (HNO.out k hltk (by omega))
      rw [hjk] at HNk
      have hnew : Hid ((l.getD j dt0).1 < (l.getD k dt0).1 → ∀ i, i < k + 1 → i < n → 0 < i → (l.getD (i - 1) dt0).1 < (l.getD i dt0).1) := fun h i h1 h2 h3 => by
        rcases Nat.lt_or_ge i k with g | g
        · exact hok.out i g h2 h3
        · obtain rfl : i = k := by omega
          rw [hjk]; exact h
      obtain ⟨x, hx⟩ : ∃ x, x = l.getD k dt0 := ⟨_, rfl⟩
      obtain ⟨y, hy⟩ : ∃ y, y = l.getD j dt0 := ⟨_, rfl⟩
      rw [← hx, ← hy] at HCB HNk hnew
      obtain ⟨x1, x2⟩ := x
      obtain ⟨y1, y2⟩ := y
      simp only at HCB HNk hnew
      clear hx hy hok hjk
      have hjI : IntKind.i64.wrap ((k : Int) - 1) = (j : Int) := by rw [hj]; exact IntWalk.i64_in _ ⟨by omega, by omega⟩
      have hjw : IntKind.i64.wrap (j : Int) = (j : Int) := IntWalk.i64_in _ ⟨by omega, by omega⟩
      have hjnI : (j : Int) < (n : Int) := by omega
      clear hj
      have HB0 : Hid (Below wr.heap.size wr wr.drew) := (Below.refl _ _).drew
      have k0 := HCB.out _ HB0.out
      by_cases hle : x1 ≤ y1
      focus
        have HR := Lib.hid (HNk.out (by omega))
        clear HNk hnew
        have g3 : decide (x1 ≤ y1) = true := decide_eq_true hle
        go_wp2
        go_region_held (fun w' : World => (w'.cell? ⟨b, off + k * 2, none⟩ = some (.int .i64 x1) ∧ w'.cell? ⟨b, off + k * 2 + 1, none⟩ = some (.int .i64 x2)) ∧ (w'.cell? ⟨b, off + j * 2, none⟩ = some (.int .i64 y1) ∧ w'.cell? ⟨b, off + j * 2 + 1, none⟩ = some (.int .i64 y2)))
          (first | exact k0 | exact k1 | exact k2)
          (first
          | (go_at_call 96; refine (numberDt_any x1 x2 _).mono ?_; rintro e w1 ⟨rfl, hb1⟩; have HB1 : Hid (Below wr.heap.size wr w1) := HB0.out.trans (hb1.mono HB0.out.size); have k1 := HCB.out _ HB1.out; clear hb1)
          | (go_at_call 96; refine (numberDt_any y1 y2 _).mono ?_; rintro e w2 ⟨rfl, hb2⟩; have HB2 : Hid (Below wr.heap.size wr w2) := HB1.out.trans (hb2.mono HB1.out.size); have k2 := HCB.out _ HB2.out; clear hb2))
        go_wp2
        go_ret
        exact ⟨ret_boolR HR.out.symm, hb.out.trans (HB2.out.mono hs1)⟩
      have HNW := Lib.hid (hnew.out (by omega))
      clear HNk hnew
      have g3 : decide (x1 ≤ y1) = false := decide_eq_false hle
      go_wp2
      go_region_held (fun w' : World => (w'.cell? ⟨b, off + k * 2, none⟩ = some (.int .i64 x1) ∧ w'.cell? ⟨b, off + k * 2 + 1, none⟩ = some (.int .i64 x2)) ∧ (w'.cell? ⟨b, off + j * 2, none⟩ = some (.int .i64 y1) ∧ w'.cell? ⟨b, off + j * 2 + 1, none⟩ = some (.int .i64 y2)))
        (first | exact k0 | exact k1 | exact k2)
        (first
        | (go_at_call 96; refine (numberDt_any x1 x2 _).mono ?_; rintro e w1 ⟨rfl, hb1⟩; have HB1 : Hid (Below wr.heap.size wr w1) := HB0.out.trans (hb1.mono HB0.out.size); have k1 := HCB.out _ HB1.out; clear hb1)
        | (go_at_call 96; refine (numberDt_any y1 y2 _).mono ?_; rintro e w2 ⟨rfl, hb2⟩; have HB2 : Hid (Below wr.heap.size wr w2) := HB1.out.trans (hb2.mono HB1.out.size); have k2 := HCB.out _ HB2.out; clear hb2))
      go_wp2
      go_roundw
      case rel => exact ⟨k + 1, by omega, by omega, by go_num, hb.out.trans (HB2.out.mono hs1), HNW⟩
      case measure => simp [intOf]; omega
    have HR := Lib.hid (HYES.out (fun i h1 h2 => hok.out i (by omega) h1 h2))
    have hltI : ¬ (k : Int) < (n : Int) := by omega
    go_wp2
    go_ret
    exact ⟨ret_boolR HR.out.symm, hb.out⟩
end Go.Proofs.YtjjaephhnlhnkacDoor
