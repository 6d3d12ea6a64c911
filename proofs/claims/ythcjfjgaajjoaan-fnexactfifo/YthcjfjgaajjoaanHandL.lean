/- CONTRACTS: the program's rank and leaves (which one goes), for lru and fifo. (Written by handl.py.) -/
import Derived.Test.YthcjfjgaajjoaanHandI
import Derived.Stop.Asserts
namespace Go.Proofs.Ythcjfjgaajjoaan
open Go.RowKit
set_option linter.unusedVariables false
/-- the place of the first least one among the first k -/
def leastK (key : Hl → Int) (l : List Hl) : Nat → Nat
  | 0 => 0
  | k + 1 => if key (l.getD k hl0) < key (l.getD (leastK key l k) hl0) then k else leastK key l k
theorem leastK_le (key : Hl → Int) (l : List Hl) : ∀ k, leastK key l k ≤ k - 1 
  | 0 => Nat.le_refl _
  | k + 1 => by
    have h := leastK_le key l k
    show (if _ then _ else _) ≤ _
    split <;> omega
theorem leastK_lt (key : Hl → Int) (l : List Hl) {k : Nat} (h : 0 < k) : leastK key l k < k := by
  have := leastK_le key l k
  omega
theorem leastK_is (key : Hl → Int) (l : List Hl) : ∀ k j, j < k → key (l.getD (leastK key l k) hl0) ≤ key (l.getD j hl0)
  | 0, j, h => absurd h (Nat.not_lt_zero _)
  | k + 1, j, h => by
    have ih := leastK_is key l k
    have e : leastK key l (k + 1) = if key (l.getD k hl0) < key (l.getD (leastK key l k) hl0) then k else leastK key l k := rfl
    rw [e]
    by_cases hc : key (l.getD k hl0) < key (l.getD (leastK key l k) hl0)
    · rw [if_pos hc]
      by_cases hj : j = k
      · rw [hj]; exact Int.le_refl _
      · have := ih j (by omega); omega
    · rw [if_neg hc]
      by_cases hj : j = k
      · rw [hj]; omega
      · exact ih j (by omega)
def keyLru (p : Hl) : Int := p.2.2
def keyFifo (p : Hl) : Int := p.2.1
theorem meth_lru (w : World) : (method 205 58 (.agg #[]) "loop.example/g00260/impl.rank").run Try.prog w = .ok (63, .agg #[]) w := by kernel_rfl
theorem ahead_lru (w : World) : (nilAhead 205 58 (.agg #[]) "loop.example/g00260/impl.rank").run Try.prog w = .ok (some false) w := by kernel_rfl
theorem asks_lru (W : World) : (Instr.typeAssert (.iface 58 (.agg #[])) 73 85 true).run Try.prog W = .ok (.tuple #[.nilIface, .bool false]) W := run_typeAssert_lacksB Try.underlying85 (by kernel_rfl) (by kernel_rfl) _ 73 W
theorem rank_lru (a b c : Int) (w : World) :
    Calls Try.prog 63 #[.agg #[], .agg #[.int .i64 a, .int .i64 b, .int .i64 c]] w fun e w' => e = .returned (.int .i64 (keyLru (a, b, c))) ∧ Below w.heap.size w w' := by
  have hb0 := (Below.refl w.heap.size w).alloc (Nat.le_refl _) (.cells #[] 58)
  have hb := hb0.alloc hb0.size (.cells #[.int .i64 a, .int .i64 b, .int .i64 c] 78)
  clear hb0
  go_enter Try.func63, Try.ntmps63
  go_wp2
  go_ret
  exact ⟨rfl, hb⟩
set_option maxHeartbeats 4000000 in
set_option maxRecDepth 100000 in
theorem leaves_lru (B : Nat) (v vc : Value) (l : List Hl) (w : World) (ho : OwnH w B v l) (hl : l.length ≤ 1048576) (h0 : 0 < l.length) :
    Calls Try.prog 42 #[v, .iface 58 (.agg #[]), vc] w fun e w' => e = .returned (.int .i64 (leastK keyLru l l.length : Int)) ∧ Below w.heap.size w w' := by
  have ask := asks_lru
  have mth := meth_lru
  have nah := ahead_lru
  rcases ownH_cases ho with ⟨rfl, _⟩ | ⟨g, cap, cur, rfl, _, hg, _, _, _, _, _, hcs⟩
  · exact absurd h0 (Nat.lt_irrefl _)
  have HA : Hid (CellsH g l w) := hcs
  have HST : Hid (∀ k, leastK keyLru l (k + 1) = if keyLru (l.getD k hl0) < keyLru (l.getD (leastK keyLru l k) hl0) then k else leastK keyLru l k) := fun k => rfl
  have HLT : Hid (∀ k, 0 < k → leastK keyLru l k < k) := fun k hk => leastK_lt _ _ hk
  have HL0 : Hid (leastK keyLru l 0 = 0) := rfl
  generalize leastK keyLru l = F at HST HLT HL0 ⊢
  obtain ⟨n, hn⟩ : ∃ n, n = l.length := ⟨_, rfl⟩
  rw [← hn] at hl h0 ⊢
  have HN : Hid (n = l.length) := hn
  clear hcs hn ho
  go_enter Try.func42, Try.ntmps42
  go_wp2
  go_loopw [9, 23] (fun m i wr => ∃ k : Nat, k ≤ n ∧ i = .int .i64 k ∧ m = .int .i64 (F k : Nat) ∧ Hid (Below w.heap.size w wr)) (fun _ i _ => n - (intOf i).toNat)
  case atStart => exact ⟨0, Nat.zero_le _, rfl, by rw [HL0.out]; rfl, Below.refl _ _⟩
  case round =>
    rename World => wr
    obtain ⟨k, hk, rfl, rfl, hb⟩ := hrel
    by_cases hltk : k < n
    focus
      have hs1 := hb.out.size
      have hFn : F k < n := by
        rcases Nat.eq_zero_or_pos k with h9 | h9
        · rw [h9, HL0.out]; exact h0
        · have := HLT.out k h9; omega
      have hst := HST.out k
      obtain ⟨m, hm⟩ : ∃ m, m = F k := ⟨_, rfl⟩
      rw [← hm] at hFn hst ⊢
      obtain ⟨x, hx9⟩ : ∃ x, x = l.getD k hl0 := ⟨_, rfl⟩
      obtain ⟨y, hy9⟩ : ∃ y, y = l.getD m hl0 := ⟨_, rfl⟩
      have HCB : Hid (∀ w', Below wr.heap.size wr w' → (w'.cell? ⟨g, k * 3, none⟩ = some (.int .i64 x.1) ∧ w'.cell? ⟨g, k * 3 + 1, none⟩ = some (.int .i64 x.2.1) ∧ w'.cell? ⟨g, k * 3 + 2, none⟩ = some (.int .i64 x.2.2)) ∧ (w'.cell? ⟨g, m * 3, none⟩ = some (.int .i64 y.1) ∧ w'.cell? ⟨g, m * 3 + 1, none⟩ = some (.int .i64 y.2.1) ∧ w'.cell? ⟨g, m * 3 + 2, none⟩ = some (.int .i64 y.2.2))) := fun w' hw' => by
        have h1 := cellsH_below HA.out hg (hb.out.trans (hw'.mono hs1))
        have h9 := HN.out
        rw [hx9, hy9]
        exact ⟨h1 k (by omega), h1 m (by omega)⟩
      rw [← hx9, ← hy9] at hst
      have HS := Lib.hid hst
      clear hx9 hy9 hst hm
      obtain ⟨x1, x2, x3⟩ := x
      obtain ⟨y1, y2, y3⟩ := y
      simp only at HCB
      have d0 := HCB.out wr (Below.refl _ _)
      obtain ⟨⟨d1, d2, d3⟩, _⟩ := d0
      obtain ⟨W0, hW0⟩ : ∃ W0, W0 = wr.alloc (.cells #[.int .i64 x1, .int .i64 x2, .int .i64 x3] 78) := ⟨_, rfl⟩
      have hbA : Below wr.heap.size wr W0 := by rw [hW0]; exact (Below.refl _ _).alloc (Nat.le_refl _) _
      have hbx : W0.heap[wr.heap.size]? = some (.cells #[.int .i64 x1, .int .i64 x2, .int .i64 x3] 78 (0, 0)) := by rw [hW0]; exact heap_alloc_new wr _
      have hzA : wr.heap.size < W0.heap.size := (Array.getElem?_eq_some_iff.1 hbx).1
      have HCC : Hid (∀ w', Below W0.heap.size W0 w' → (w'.cell? ⟨wr.heap.size, 0, none⟩ = some (.int .i64 x1) ∧ w'.cell? ⟨wr.heap.size, 1, none⟩ = some (.int .i64 x2) ∧ w'.cell? ⟨wr.heap.size, 2, none⟩ = some (.int .i64 x3)) ∧ (w'.cell? ⟨g, m * 3, none⟩ = some (.int .i64 y1) ∧ w'.cell? ⟨g, m * 3 + 1, none⟩ = some (.int .i64 y2) ∧ w'.cell? ⟨g, m * 3 + 2, none⟩ = some (.int .i64 y3))) := fun w' hw' => by
        have e := (hw'.block wr.heap.size hzA).trans hbx
        refine ⟨⟨?_, ?_, ?_⟩, (HCB.out w' (hbA.trans (hw'.mono (by omega)))).2⟩
        · rw [cell_of_row w' wr.heap.size 0 _ _ (0, 0) e]; rfl
        · rw [cell_of_row w' wr.heap.size 1 _ _ (0, 0) e]; rfl
        · rw [cell_of_row w' wr.heap.size 2 _ _ (0, 0) e]; rfl
      have HBA := Lib.hid hbA
      have HB0 : Hid (Below W0.heap.size W0 W0.drew) := (Below.refl _ _).drew
      have k0 := HCC.out _ HB0.out
      rw [hW0] at HBA HB0 HCC k0
      have HZ : Hid (wr.heap.size ≤ (wr.alloc (.cells #[.int .i64 x1, .int .i64 x2, .int .i64 x3] 78)).heap.size) := by show _ ≤ _; rw [World.size_alloc]; omega
      clear hbA hbx hzA hW0 HCB
      have hrk := rank_lru
      by_cases hlt : keyLru (x1, x2, x3) < keyLru (y1, y2, y3)
      · have HS2 : Hid (F (k + 1) = k) := by have h9 := HS.out; rw [if_pos hlt] at h9; exact h9
        have g3 : decide (keyLru (x1, x2, x3) < keyLru (y1, y2, y3)) = true := decide_eq_true hlt
        clear HS
        go_wp2
        go_region_held (fun w' : World => (w'.cell? ⟨wr.heap.size, 0, none⟩ = some (.int .i64 x1) ∧ w'.cell? ⟨wr.heap.size, 1, none⟩ = some (.int .i64 x2) ∧ w'.cell? ⟨wr.heap.size, 2, none⟩ = some (.int .i64 x3)) ∧ (w'.cell? ⟨g, m * 3, none⟩ = some (.int .i64 y1) ∧ w'.cell? ⟨g, m * 3 + 1, none⟩ = some (.int .i64 y2) ∧ w'.cell? ⟨g, m * 3 + 2, none⟩ = some (.int .i64 y3)))
          (first | exact k0 | exact k1 | exact k2)
          (first
          | (go_at_call 63; refine (rank_lru x1 x2 x3 _).mono ?_; rintro e w1 ⟨rfl, hb1⟩; have HB1 := Lib.hid (HB0.out.trans (hb1.mono HB0.out.size)); have k1 := HCC.out _ HB1.out; clear hb1)
          | (go_at_call 63; refine (rank_lru y1 y2 y3 _).mono ?_; rintro e w2 ⟨rfl, hb2⟩; have HB2 := Lib.hid (HB1.out.trans (hb2.mono HB1.out.size)); have k2 := HCC.out _ HB2.out; clear hb2))
        go_wp2
        go_roundw
        case rel => exact ⟨k + 1, by omega, by go_num, by rw [HS2.out], hb.out.trans ((HBA.out.trans (HB2.out.mono HZ.out)).mono hs1)⟩
        case measure => simp [intOf]; omega
        all_goals exact ⟨⟨k + 1, by omega, by go_num, by rw [HS2.out], hb.out.trans ((HBA.out.trans (HB2.out.mono HZ.out)).mono hs1)⟩, by simp [intOf]; omega⟩
      · have HS2 : Hid (F (k + 1) = m) := by have h9 := HS.out; rw [if_neg hlt] at h9; exact h9
        have g3 : decide (keyLru (x1, x2, x3) < keyLru (y1, y2, y3)) = false := decide_eq_false hlt
        clear HS
        go_wp2
        go_region_held (fun w' : World => (w'.cell? ⟨wr.heap.size, 0, none⟩ = some (.int .i64 x1) ∧ w'.cell? ⟨wr.heap.size, 1, none⟩ = some (.int .i64 x2) ∧ w'.cell? ⟨wr.heap.size, 2, none⟩ = some (.int .i64 x3)) ∧ (w'.cell? ⟨g, m * 3, none⟩ = some (.int .i64 y1) ∧ w'.cell? ⟨g, m * 3 + 1, none⟩ = some (.int .i64 y2) ∧ w'.cell? ⟨g, m * 3 + 2, none⟩ = some (.int .i64 y3)))
          (first | exact k0 | exact k1 | exact k2)
          (first
          | (go_at_call 63; refine (rank_lru x1 x2 x3 _).mono ?_; rintro e w1 ⟨rfl, hb1⟩; have HB1 := Lib.hid (HB0.out.trans (hb1.mono HB0.out.size)); have k1 := HCC.out _ HB1.out; clear hb1)
          | (go_at_call 63; refine (rank_lru y1 y2 y3 _).mono ?_; rintro e w2 ⟨rfl, hb2⟩; have HB2 := Lib.hid (HB1.out.trans (hb2.mono HB1.out.size)); have k2 := HCC.out _ HB2.out; clear hb2))
        go_wp2
        go_roundw
        case rel => exact ⟨k + 1, by omega, by go_num, by rw [HS2.out], hb.out.trans ((HBA.out.trans (HB2.out.mono HZ.out)).mono hs1)⟩
        case measure => simp [intOf]; omega
        all_goals exact ⟨⟨k + 1, by omega, by go_num, by rw [HS2.out], hb.out.trans ((HBA.out.trans (HB2.out.mono HZ.out)).mono hs1)⟩, by simp [intOf]; omega⟩
    have HR : Hid (F k = F n) := by show F k = F n; rw [show k = n by omega]
    go_wp2
    go_ret
    exact ⟨by rw [← HR.out]; rfl, hb.out⟩
theorem meth_fifo (w : World) : (method 205 59 (.agg #[]) "loop.example/g00260/impl.rank").run Try.prog w = .ok (64, .agg #[]) w := by kernel_rfl
theorem ahead_fifo (w : World) : (nilAhead 205 59 (.agg #[]) "loop.example/g00260/impl.rank").run Try.prog w = .ok (some false) w := by kernel_rfl
theorem asks_fifo (W : World) : (Instr.typeAssert (.iface 59 (.agg #[])) 73 85 true).run Try.prog W = .ok (.tuple #[.nilIface, .bool false]) W := run_typeAssert_lacksB Try.underlying85 (by kernel_rfl) (by kernel_rfl) _ 73 W
theorem rank_fifo (a b c : Int) (w : World) :
    Calls Try.prog 64 #[.agg #[], .agg #[.int .i64 a, .int .i64 b, .int .i64 c]] w fun e w' => e = .returned (.int .i64 (keyFifo (a, b, c))) ∧ Below w.heap.size w w' := by
  have hb0 := (Below.refl w.heap.size w).alloc (Nat.le_refl _) (.cells #[] 59)
  have hb := hb0.alloc hb0.size (.cells #[.int .i64 a, .int .i64 b, .int .i64 c] 78)
  clear hb0
  go_enter Try.func64, Try.ntmps64
  go_wp2
  go_ret
  exact ⟨rfl, hb⟩
set_option maxHeartbeats 4000000 in
set_option maxRecDepth 100000 in
theorem leaves_fifo (B : Nat) (v vc : Value) (l : List Hl) (w : World) (ho : OwnH w B v l) (hl : l.length ≤ 1048576) (h0 : 0 < l.length) :
    Calls Try.prog 42 #[v, .iface 59 (.agg #[]), vc] w fun e w' => e = .returned (.int .i64 (leastK keyFifo l l.length : Int)) ∧ Below w.heap.size w w' := by
  have ask := asks_fifo
  have mth := meth_fifo
  have nah := ahead_fifo
  rcases ownH_cases ho with ⟨rfl, _⟩ | ⟨g, cap, cur, rfl, _, hg, _, _, _, _, _, hcs⟩
  · exact absurd h0 (Nat.lt_irrefl _)
  have HA : Hid (CellsH g l w) := hcs
  have HST : Hid (∀ k, leastK keyFifo l (k + 1) = if keyFifo (l.getD k hl0) < keyFifo (l.getD (leastK keyFifo l k) hl0) then k else leastK keyFifo l k) := fun k => rfl
  have HLT : Hid (∀ k, 0 < k → leastK keyFifo l k < k) := fun k hk => leastK_lt _ _ hk
  have HL0 : Hid (leastK keyFifo l 0 = 0) := rfl
  generalize leastK keyFifo l = F at HST HLT HL0 ⊢
  obtain ⟨n, hn⟩ : ∃ n, n = l.length := ⟨_, rfl⟩
  rw [← hn] at hl h0 ⊢
  have HN : Hid (n = l.length) := hn
  clear hcs hn ho
  go_enter Try.func42, Try.ntmps42
  go_wp2
  go_loopw [9, 23] (fun m i wr => ∃ k : Nat, k ≤ n ∧ i = .int .i64 k ∧ m = .int .i64 (F k : Nat) ∧ Hid (Below w.heap.size w wr)) (fun _ i _ => n - (intOf i).toNat)
  case atStart => exact ⟨0, Nat.zero_le _, rfl, by rw [HL0.out]; rfl, Below.refl _ _⟩
  case round =>
    rename World => wr
    obtain ⟨k, hk, rfl, rfl, hb⟩ := hrel
    by_cases hltk : k < n
    focus
      have hs1 := hb.out.size
      have hFn : F k < n := by
        rcases Nat.eq_zero_or_pos k with h9 | h9
        · rw [h9, HL0.out]; exact h0
        · have := HLT.out k h9; omega
      have hst := HST.out k
      obtain ⟨m, hm⟩ : ∃ m, m = F k := ⟨_, rfl⟩
      rw [← hm] at hFn hst ⊢
      obtain ⟨x, hx9⟩ : ∃ x, x = l.getD k hl0 := ⟨_, rfl⟩
      obtain ⟨y, hy9⟩ : ∃ y, y = l.getD m hl0 := ⟨_, rfl⟩
      have HCB : Hid (∀ w', Below wr.heap.size wr w' → (w'.cell? ⟨g, k * 3, none⟩ = some (.int .i64 x.1) ∧ w'.cell? ⟨g, k * 3 + 1, none⟩ = some (.int .i64 x.2.1) ∧ w'.cell? ⟨g, k * 3 + 2, none⟩ = some (.int .i64 x.2.2)) ∧ (w'.cell? ⟨g, m * 3, none⟩ = some (.int .i64 y.1) ∧ w'.cell? ⟨g, m * 3 + 1, none⟩ = some (.int .i64 y.2.1) ∧ w'.cell? ⟨g, m * 3 + 2, none⟩ = some (.int .i64 y.2.2))) := fun w' hw' => by
        have h1 := cellsH_below HA.out hg (hb.out.trans (hw'.mono hs1))
        have h9 := HN.out
        rw [hx9, hy9]
        exact ⟨h1 k (by omega), h1 m (by omega)⟩
      rw [← hx9, ← hy9] at hst
      have HS := Lib.hid hst
      clear hx9 hy9 hst hm
      obtain ⟨x1, x2, x3⟩ := x
      obtain ⟨y1, y2, y3⟩ := y
      simp only at HCB
      have d0 := HCB.out wr (Below.refl _ _)
      obtain ⟨⟨d1, d2, d3⟩, _⟩ := d0
      obtain ⟨W0, hW0⟩ : ∃ W0, W0 = wr.alloc (.cells #[.int .i64 x1, .int .i64 x2, .int .i64 x3] 78) := ⟨_, rfl⟩
      have hbA : Below wr.heap.size wr W0 := by rw [hW0]; exact (Below.refl _ _).alloc (Nat.le_refl _) _
      have hbx : W0.heap[wr.heap.size]? = some (.cells #[.int .i64 x1, .int .i64 x2, .int .i64 x3] 78 (0, 0)) := by rw [hW0]; exact heap_alloc_new wr _
      have hzA : wr.heap.size < W0.heap.size := (Array.getElem?_eq_some_iff.1 hbx).1
      have HCC : Hid (∀ w', Below W0.heap.size W0 w' → (w'.cell? ⟨wr.heap.size, 0, none⟩ = some (.int .i64 x1) ∧ w'.cell? ⟨wr.heap.size, 1, none⟩ = some (.int .i64 x2) ∧ w'.cell? ⟨wr.heap.size, 2, none⟩ = some (.int .i64 x3)) ∧ (w'.cell? ⟨g, m * 3, none⟩ = some (.int .i64 y1) ∧ w'.cell? ⟨g, m * 3 + 1, none⟩ = some (.int .i64 y2) ∧ w'.cell? ⟨g, m * 3 + 2, none⟩ = some (.int .i64 y3))) := fun w' hw' => by
        have e := (hw'.block wr.heap.size hzA).trans hbx
        refine ⟨⟨?_, ?_, ?_⟩, (HCB.out w' (hbA.trans (hw'.mono (by omega)))).2⟩
        · rw [cell_of_row w' wr.heap.size 0 _ _ (0, 0) e]; rfl
        · rw [cell_of_row w' wr.heap.size 1 _ _ (0, 0) e]; rfl
        · rw [cell_of_row w' wr.heap.size 2 _ _ (0, 0) e]; rfl
      have HBA := Lib.hid hbA
      have HB0 : Hid (Below W0.heap.size W0 W0.drew) := (Below.refl _ _).drew
      have k0 := HCC.out _ HB0.out
      rw [hW0] at HBA HB0 HCC k0
      have HZ : Hid (wr.heap.size ≤ (wr.alloc (.cells #[.int .i64 x1, .int .i64 x2, .int .i64 x3] 78)).heap.size) := by show _ ≤ _; rw [World.size_alloc]; omega
      clear hbA hbx hzA hW0 HCB
      have hrk := rank_fifo
      by_cases hlt : keyFifo (x1, x2, x3) < keyFifo (y1, y2, y3)
      · have HS2 : Hid (F (k + 1) = k) := by have h9 := HS.out; rw [if_pos hlt] at h9; exact h9
        have g3 : decide (keyFifo (x1, x2, x3) < keyFifo (y1, y2, y3)) = true := decide_eq_true hlt
        clear HS
        go_wp2
        go_region_held (fun w' : World => (w'.cell? ⟨wr.heap.size, 0, none⟩ = some (.int .i64 x1) ∧ w'.cell? ⟨wr.heap.size, 1, none⟩ = some (.int .i64 x2) ∧ w'.cell? ⟨wr.heap.size, 2, none⟩ = some (.int .i64 x3)) ∧ (w'.cell? ⟨g, m * 3, none⟩ = some (.int .i64 y1) ∧ w'.cell? ⟨g, m * 3 + 1, none⟩ = some (.int .i64 y2) ∧ w'.cell? ⟨g, m * 3 + 2, none⟩ = some (.int .i64 y3)))
          (first | exact k0 | exact k1 | exact k2)
          (first
          | (go_at_call 64; refine (rank_fifo x1 x2 x3 _).mono ?_; rintro e w1 ⟨rfl, hb1⟩; have HB1 := Lib.hid (HB0.out.trans (hb1.mono HB0.out.size)); have k1 := HCC.out _ HB1.out; clear hb1)
          | (go_at_call 64; refine (rank_fifo y1 y2 y3 _).mono ?_; rintro e w2 ⟨rfl, hb2⟩; have HB2 := Lib.hid (HB1.out.trans (hb2.mono HB1.out.size)); have k2 := HCC.out _ HB2.out; clear hb2))
        go_wp2
        go_roundw
        case rel => exact ⟨k + 1, by omega, by go_num, by rw [HS2.out], hb.out.trans ((HBA.out.trans (HB2.out.mono HZ.out)).mono hs1)⟩
        case measure => simp [intOf]; omega
        all_goals exact ⟨⟨k + 1, by omega, by go_num, by rw [HS2.out], hb.out.trans ((HBA.out.trans (HB2.out.mono HZ.out)).mono hs1)⟩, by simp [intOf]; omega⟩
      · have HS2 : Hid (F (k + 1) = m) := by have h9 := HS.out; rw [if_neg hlt] at h9; exact h9
        have g3 : decide (keyFifo (x1, x2, x3) < keyFifo (y1, y2, y3)) = false := decide_eq_false hlt
        clear HS
        go_wp2
        go_region_held (fun w' : World => (w'.cell? ⟨wr.heap.size, 0, none⟩ = some (.int .i64 x1) ∧ w'.cell? ⟨wr.heap.size, 1, none⟩ = some (.int .i64 x2) ∧ w'.cell? ⟨wr.heap.size, 2, none⟩ = some (.int .i64 x3)) ∧ (w'.cell? ⟨g, m * 3, none⟩ = some (.int .i64 y1) ∧ w'.cell? ⟨g, m * 3 + 1, none⟩ = some (.int .i64 y2) ∧ w'.cell? ⟨g, m * 3 + 2, none⟩ = some (.int .i64 y3)))
          (first | exact k0 | exact k1 | exact k2)
          (first
          | (go_at_call 64; refine (rank_fifo x1 x2 x3 _).mono ?_; rintro e w1 ⟨rfl, hb1⟩; have HB1 := Lib.hid (HB0.out.trans (hb1.mono HB0.out.size)); have k1 := HCC.out _ HB1.out; clear hb1)
          | (go_at_call 64; refine (rank_fifo y1 y2 y3 _).mono ?_; rintro e w2 ⟨rfl, hb2⟩; have HB2 := Lib.hid (HB1.out.trans (hb2.mono HB1.out.size)); have k2 := HCC.out _ HB2.out; clear hb2))
        go_wp2
        go_roundw
        case rel => exact ⟨k + 1, by omega, by go_num, by rw [HS2.out], hb.out.trans ((HBA.out.trans (HB2.out.mono HZ.out)).mono hs1)⟩
        case measure => simp [intOf]; omega
        all_goals exact ⟨⟨k + 1, by omega, by go_num, by rw [HS2.out], hb.out.trans ((HBA.out.trans (HB2.out.mono HZ.out)).mono hs1)⟩, by simp [intOf]; omega⟩
    have HR : Hid (F k = F n) := by show F k = F n; rw [show k = n by omega]
    go_wp2
    go_ret
    exact ⟨by rw [← HR.out]; rfl, hb.out⟩
end Go.Proofs.Ythcjfjgaajjoaan
