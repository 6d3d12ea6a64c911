/- CONTRACTS: slices.SortStableFunc on the numbers of the lengths (at most 32): rows that are swapped, rotated, inserted into, merged. -/
import Derived.Test.YtiflpnmkclcimabSortMath
import Derived.Test.YtiflpnmkclcimabShort
import Derived.Test.YtiflpnmkclcimabCodesS
import Derived.Laws.OwnMore
import Derived.BigRegion
namespace Go.Proofs.Ytiflpnmkclcimab
open Go.RowKit
set_option linter.unusedVariables false

def rowG (f : Nat → Nat) (n : Nat) : List Int := (List.range n).map fun i => ((f i : Nat) : Int)
theorem rowG_len (f : Nat → Nat) (n : Nat) : (rowG f n).length = n := by simp [rowG]
theorem rowG_get (f : Nat → Nat) {n i : Nat} (h : i < n) : (rowG f n).getD i 0 = ((f i : Nat) : Int) := by
  unfold rowG
  rw [List.getD, List.getElem?_map, List.getElem?_range h]
  rfl
theorem rowG_set (f : Nat → Nat) (n i v : Nat) : (cellsInt64S (rowG f n)).set i (.int .i64 (v : Int)) = cellsInt64S (rowG (Srt.upd f i v) n) := by
  apply List.ext_getElem
  · simp [rowG]
  · intro j h1 h2
    rw [List.getElem_set]
    simp only [cellsInt64S, rowG, List.getElem_map, List.getElem_range, Srt.upd]
    by_cases e : i = j
    · subst e; simp
    · rw [if_neg e, if_neg (fun h => e h.symm)]
/-- the row of numbers in block g -/
def RowSt (g n : Nat) (f : Nat → Nat) (w : World) : Prop := w.ownsRow g 3 1 (.slice (some ⟨g, 0, none⟩) n n) n (cellsInt64S (rowG f n))
theorem RowSt.cell {g n : Nat} {f : Nat → Nat} {w : World} (h : RowSt g n f w) {k : Nat} (hk : k < n) : w.cell? ⟨g, k, none⟩ = some (.int .i64 (f k : Int)) := by
  have e := World.ownsRow.cellAt h k (by omega)
  rw [e, ints_get _ _ k (by rw [rowG_len]; exact hk), rowG_get f hk]
theorem RowSt.set {g n : Nat} {f : Nat → Nat} {w : World} (h : RowSt g n f w) (k v : Nat) : RowSt g n (Srt.upd f k v) (w.setCell ⟨g, k, none⟩ (.int .i64 (v : Int))) ∧ w.grownBy (w.setCell ⟨g, k, none⟩ (.int .i64 (v : Int))) (some g) := by
  have hst := World.ownsRow.stored h k (.int .i64 (v : Int))
  rw [rowG_set] at hst
  exact hst
theorem RowSt.swap {g n : Nat} {f : Nat → Nat} {w : World} (h : RowSt g n f w) (i j : Nat) :
    RowSt g n (Srt.upd (Srt.upd f i (f j)) j (f i)) ((w.setCell ⟨g, i, none⟩ (.int .i64 (f j : Int))).setCell ⟨g, j, none⟩ (.int .i64 (f i : Int))) ∧
    Below g w ((w.setCell ⟨g, i, none⟩ (.int .i64 (f j : Int))).setCell ⟨g, j, none⟩ (.int .i64 (f i : Int))) :=
  ⟨((h.set i (f j)).1.set j (f i)).1, ((Below.refl g w).setCell (p := ⟨g, i, none⟩) (Nat.le_refl g) _).setCell (p := ⟨g, j, none⟩) (Nat.le_refl g) _⟩
theorem RowSt.drewN {g n : Nat} {f : Nat → Nat} {w : World} (h : RowSt g n f w) (d : Nat) : RowSt g n f (w.drewN d) := owns_below h (below_drewN (Below.refl _ w) d)
/-- the lengths by which they are sorted -/
def EnvS (g bx : Nat) (vl : Value) (l : List Int) (w : World) : Prop := ∃ w0 : World, w0.heap.size = g ∧ bx < g ∧ w0.cell? ⟨bx, 0, none⟩ = some vl ∧ Rd w0 vl (cellsInt64S l) ∧ Below g w0 w
theorem EnvS.below {g bx : Nat} {vl : Value} {l : List Int} {w w' : World} (h : EnvS g bx vl l w) (hb : Below g w w') : EnvS g bx vl l w' := by
  obtain ⟨w0, h1, h2, h3, h4, h5⟩ := h
  exact ⟨w0, h1, h2, h3, h4, h5.trans hb⟩
theorem EnvS.drewN {g bx : Nat} {vl : Value} {l : List Int} {w : World} (h : EnvS g bx vl l w) (d : Nat) : EnvS g bx vl l (w.drewN d) := h.below (below_drewN (Below.refl _ w) d)
theorem EnvS.reads {g bx : Nat} {vl : Value} {l : List Int} {w : World} (h : EnvS g bx vl l w) : w.cell? ⟨bx, 0, none⟩ = some vl ∧ ∃ ao cap, vl = .slice ao l.length cap ∧ l.length ≤ cap ∧ ∀ j, j < l.length → ∃ b off, ao = some ⟨b, off, none⟩ ∧ w.cell? ⟨b, off + j, none⟩ = some (.int .i64 (l.getD j 0)) := by
  obtain ⟨w0, h1, h2, h3, h4, h5⟩ := h
  have hl : (cellsInt64S l).length = l.length := by simp
  refine ⟨(h5.cell (p := ⟨bx, 0, none⟩) h2).trans h3, ?_⟩
  obtain ⟨ao, cap, hv, hc, hx⟩ := h4
  rw [hl] at hv hc hx
  refine ⟨ao, cap, hv, hc, fun j hj => ?_⟩
  obtain ⟨b, off, e1, e2, e3⟩ := hx (by intro h; rw [h] at hl; simp at hl; omega)
  exact ⟨b, off, e1, (h5.cell (p := ⟨b, off + j, none⟩) (by show b < g; omega)).trans ((e3 j hj).trans (ints_get _ l j hj))⟩

/-- what Compare tells -/
def cz (x y : Int) : Int := if x < y then -1 else if y < x then 1 else 0
theorem cz_neg (x y : Int) : cz x y < 0 ↔ x < y := by unfold cz; split <;> (try split) <;> omega
theorem cz_in (x y : Int) : -1 ≤ cz x y ∧ cz x y ≤ 1 := by unfold cz; split <;> (try split) <;> omega
set_option maxRecDepth 100000 in
theorem compare_any (x y : Int) (w : World) : Calls Try.prog 86 #[.int .i64 x, .int .i64 y] w fun e w' => e = .returned (.int .i64 (cz x y)) ∧ w' = w := by
  have h1 : ((x : Int) != x) = false := by simp
  have h2 : ((y : Int) != y) = false := by simp
  by_cases h : x < y
  · have e : cz x y = -1 := by unfold cz; rw [if_pos h]
    rw [e]
    clear e
    go_enter Try.func86, Try.ntmps86
    go_wp2
    go_ret
    exact ⟨rfl, rfl⟩
  · by_cases k : y < x
    · have e : cz x y = 1 := by unfold cz; rw [if_neg h, if_pos k]
      rw [e]
      clear e
      go_enter Try.func86, Try.ntmps86
      go_wp2
      go_ret
      exact ⟨rfl, rfl⟩
    · have e : cz x y = 0 := by unfold cz; rw [if_neg h, if_neg k]
      rw [e]
      clear e
      go_enter Try.func86, Try.ntmps86
      go_wp2
      go_ret
      exact ⟨rfl, rfl⟩
set_option maxRecDepth 100000 in
theorem cmp_any (g bx : Nat) (vl : Value) (l : List Int) (i j : Nat) (w : World) (hE : EnvS g bx vl l w) (hi : i < l.length) (hj : j < l.length) (hl : l.length ≤ 1099511627776) :
    Calls Try.prog 85 #[.int .i64 (i : Int), .int .i64 (j : Int), .pointer (some ⟨bx, 0, none⟩)] w fun e w' => e = .returned (.int .i64 (cz (l.getD i 0) (l.getD j 0))) ∧ ∃ d, w' = w.drewN d := by
  obtain ⟨hb, ao, cap, rfl, hcap, hx⟩ := hE.reads
  obtain ⟨b, off, rfl, hc1⟩ := hx i hi
  obtain ⟨b2, off2, hao, hc2⟩ := hx j hj
  simp only [Option.some.injEq, Addr.mk.injEq, and_true] at hao
  obtain ⟨rfl, rfl⟩ := hao
  generalize l.getD i 0 = x at hc1 ⊢
  generalize l.getD j 0 = y at hc2 ⊢
  generalize l.length = n at hi hj hl hcap hb
  clear hx hE
  have hiI : (i : Int) < (n : Int) := by omega
  have hjI : (j : Int) < (n : Int) := by omega
  go_enter Try.func85, Try.ntmps85
  go_wp2
  go_quiet (first | (go_at_call 86; exact Calls.quiet_of_same (compare_any _ _ _)))
  go_wp2
  go_ret
  exact ⟨rfl, _, rfl⟩
set_option maxHeartbeats 1000000 in
set_option maxRecDepth 100000 in
theorem swapRange_any (g n bx a b k : Nat) (f : Nat → Nat) (w : World) (h : RowSt g n f w) (hab : a + k ≤ b) (hb : b + k ≤ n) (hn : n ≤ 1000000) (cf : Value) :
    Calls Try.prog 111 #[.slice (some ⟨g, 0, none⟩) n n, .int .i64 (a : Int), .int .i64 (b : Int), .int .i64 (k : Int), cf] w fun e w' => e = .returned (.tuple #[]) ∧ RowSt g n (Srt.swapF a b k f) w' ∧ Below g w w' := by
  go_enter Try.func111, Try.ntmps111
  go_wp2
  go_loopw [10] (fun i wr => ∃ q : Nat, i = .int .i64 q ∧ q ≤ k ∧ RowSt g n (Srt.swapF a b q f) wr ∧ Below g w wr) (fun i _ => k - (intOf i).toNat)
  case atStart => exact ⟨0, rfl, Nat.zero_le _, by rw [Srt.swapF_zero]; exact h, Below.refl _ _⟩
  case round =>
    obtain ⟨q, rfl, hq, hr, hbb⟩ := hrel
    by_cases hlt : q < k
    · have c1 := hr.cell (k := a + q) (by omega)
      have c2 := hr.cell (k := b + q) (by omega)
      have f1 : wr.frozen? ⟨g, a + q, none⟩ = false := World.ownsRow.frozenAt hr _
      have f2 : wr.frozen? ⟨g, b + q, none⟩ = false := World.ownsRow.frozenAt hr _
      have hsw := hr.swap (a + q) (b + q)
      rw [Srt.swapF_succ f hab hlt] at hsw
      have HSW : Hid (RowSt g n (Srt.swapF a b (q + 1) f) _ ∧ Below g wr _) := hsw
      obtain ⟨x, hx⟩ : ∃ x, x = Srt.swapF a b q f (a + q) := ⟨_, rfl⟩
      obtain ⟨y, hy⟩ : ∃ y, y = Srt.swapF a b q f (b + q) := ⟨_, rfl⟩
      rw [← hx] at c1 HSW
      rw [← hy] at c2 HSW
      have hne : a + q ≠ b + q := by omega
      clear hsw hr hx hy h
      go_wp2
      go_region
      all_goals
        go_wp2
        go_roundw
        case rel => exact ⟨q + 1, by go_num, by omega, HSW.out.1, hbb.trans (by first | exact HSW.out.2 | exact HSW.out.2.drew)⟩
        case measure => simp [intOf]; omega
    · obtain rfl : q = k := by omega
      go_wp2
      go_end0
      exact ⟨rfl, hr, hbb⟩
set_option maxHeartbeats 1000000 in
set_option maxRecDepth 100000 in
theorem rotate_any (g n a m b : Nat) (f : Nat → Nat) (w : World) (h : RowSt g n f w) (ham : a < m) (hmb : m < b) (hb : b ≤ n) (hn : n ≤ 1000000) (cf : Value) :
    Calls Try.prog 110 #[.slice (some ⟨g, 0, none⟩) n n, .int .i64 (a : Int), .int .i64 (m : Int), .int .i64 (b : Int), cf] w fun e w' => e = .returned (.tuple #[]) ∧ RowSt g n (Srt.rotF a m b f) w' ∧ Below g w w' := by
  have HT : Hid (Srt.rotF a m b f = Srt.rotF (m - (m - a)) m (m + (b - m)) f) := by
    show _ = _
    rw [show m - (m - a) = a by omega, show m + (b - m) = b by omega]
  go_enter Try.func110, Try.ntmps110
  go_wp2
  go_loopw [10, 11] (fun p q wr => ∃ (i j : Nat) (k : Nat → Nat), p = .int .i64 i ∧ q = .int .i64 j ∧ 1 ≤ i ∧ 1 ≤ j ∧ i ≤ m ∧ m + j ≤ b ∧ RowSt g n k wr ∧ Hid (Srt.rotF a m b f = Srt.rotF (m - i) m (m + j) k) ∧ Below g w wr) (fun p q _ => (intOf p).toNat + (intOf q).toNat)
  case atStart => exact ⟨m - a, b - m, f, by go_num, by go_num, by omega, by omega, by omega, by omega, h, HT.out, Below.refl _ _⟩
  case round =>
    obtain ⟨i, j, k, rfl, rfl, hi, hj, him, hjb, hr, hT, hbb⟩ := hrel
    clear h HT
    by_cases heq : i = j
    · subst heq
      have hsw := swapRange_any g n 0 (m - i) m i k wr hr (by omega) (by omega) hn cf
      rw [← Srt.rot_end k him, ← hT.out] at hsw
      have e1 : (m : Int) - (i : Int) = ((m - i : Nat) : Int) := by omega
      have hne : ((i : Int) != (i : Int)) = false := by simp
      clear hT hr
      go_wp2_with fail
      refine hsw.mono ?_
      rintro e w2 ⟨rfl, hr2, hb2⟩
      clear hsw
      go_wp2
      go_end0
      exact ⟨rfl, hr2, hbb.trans hb2⟩
    · have hneI : ((i : Int) != (j : Int)) = true := by simp; omega
      have e1 : (m : Int) - (i : Int) = ((m - i : Nat) : Int) := by omega
      by_cases hlt : j < i
      · have hsw := swapRange_any g n 0 (m - i) m j k wr hr (by omega) (by omega) hn cf
        have HT2 : Hid (Srt.rotF a m b f = Srt.rotF (m - (i - j)) m (m + j) (Srt.swapF (m - i) m j k)) := hT.out.trans (Srt.rot_left k hlt him)
        have hI : (j : Int) < (i : Int) := by omega
        clear hT hr
        go_wp2_with fail
        refine hsw.mono ?_
        rintro e w2 ⟨rfl, hr2, hb2⟩
        have hB2 := hbb.trans hb2
        clear hsw hbb hb2
        go_wp2
        go_roundw
        case rel => exact ⟨i - j, j, _, by go_num, rfl, by omega, hj, by omega, hjb, hr2, HT2.out, hB2⟩
        case measure => simp [intOf]; omega
      · have hsw := swapRange_any g n 0 (m - i) (m + j - i) i k wr hr (by omega) (by omega) hn cf
        have HT2 : Hid (Srt.rotF a m b f = Srt.rotF (m - i) m (m + (j - i)) (Srt.swapF (m - i) (m + j - i) i k)) := hT.out.trans (Srt.rot_right k (by omega) him)
        have hI : ¬ (j : Int) < (i : Int) := by omega
        have e2 : (m : Int) + (j : Int) - (i : Int) = ((m + j - i : Nat) : Int) := by omega
        clear hT hr
        go_wp2_with fail
        refine hsw.mono ?_
        rintro e w2 ⟨rfl, hr2, hb2⟩
        have hB2 := hbb.trans hb2
        clear hsw hbb hb2
        go_wp2
        go_roundw
        case rel => exact ⟨i, j - i, _, rfl, by go_num, hi, by omega, him, by omega, hr2, HT2.out, hB2⟩
        case measure => simp [intOf]; omega
set_option maxHeartbeats 2000000 in
set_option maxRecDepth 100000 in
theorem insertion_any (g n bx a b : Nat) (vl : Value) (l : List Int) (f : Nat → Nat) (w : World) (h : RowSt g n f w) (hE : EnvS g bx vl l w) (hl0 : ∀ i, i < l.length → 0 ≤ l.getD i 0) (hf : ∀ k, k < n → f k < l.length)
    (hab : a ≤ b) (hb : b ≤ n) (hn : n ≤ 1000000) (hll : l.length ≤ 1000000) (hidx : ∀ p q, a ≤ p → p < q → q < b → f p < f q) :
    Calls Try.prog 108 #[.slice (some ⟨g, 0, none⟩) n n, .int .i64 (a : Int), .int .i64 (b : Int), .func (.func 85) #[] #[.pointer (some ⟨bx, 0, none⟩)]] w fun e w' => e = .returned (.tuple #[]) ∧
      ∃ f', RowSt g n f' w' ∧ Srt.Seg a b f f' ∧ Srt.Sorted (lenN l) a b f' ∧ Below g w w' := by
  have HF : Hid (∀ k, k < n → f k < l.length) := hf
  have HIDX : Hid (∀ p q, a ≤ p → p < q → q < b → f p < f q) := hidx
  have HL : Hid (∀ x y, x < l.length → y < l.length → (l.getD x 0 < l.getD y 0 ↔ lenN l x < lenN l y)) := fun x y hx hy => by
    have := hl0 x hx
    have := hl0 y hy
    unfold lenN
    omega
  clear hf hidx hl0
  go_enter Try.func108, Try.ntmps108
  go_wp2
  go_loopw [8] (fun p wr => ∃ (i : Nat) (k : Nat → Nat), p = .int .i64 i ∧ a + 1 ≤ i ∧ (i ≤ b ∨ i = a + 1) ∧ RowSt g n k wr ∧ Hid (Srt.Seg a i f k ∧ Srt.Sorted (lenN l) a i k) ∧ Below g w wr) (fun p _ => b + 1 - (intOf p).toNat)
  case atStart => exact ⟨a + 1, f, by go_num, Nat.le_refl _, Or.inr rfl, h, ⟨Srt.Seg.refl _ _ _, fun i j h1 h2 h3 => by omega⟩, Below.refl _ _⟩
  case round =>
    obtain ⟨i, k, rfl, hai, hib, hr, hk, hbb⟩ := hrel
    clear h
    by_cases hlt : i < b
    focus
      have hE1 := hE.below hbb
      have HKI : Hid (∀ p, a ≤ p → p < i → k p < k i) := fun p p1 p2 => by
        have e := hk.out.1.out (k := i) (Or.inr (Nat.le_refl i))
        rw [e]
        exact hk.out.1.all (P := fun x => x < f i) (fun q q1 q2 => HIDX.out q i q1 q2 hlt) p p1 p2
      have HKL : Hid (∀ q, q < n → k q < l.length) := fun q hq => by
        by_cases hq2 : q < a ∨ i ≤ q
        · rw [hk.out.1.out hq2]; exact HF.out q hq
        · exact hk.out.1.all (P := fun x => x < l.length) (fun p p1 p2 => HF.out p (by omega)) q (by omega) (by omega)
      go_wp2
      go_loopw [9] (fun p w2 => ∃ j : Nat, p = .int .i64 j ∧ a ≤ j ∧ j ≤ i ∧ RowSt g n (Srt.rotF j i (i + 1) k) w2 ∧ Hid (j < i → lenN l (k i) < lenN l (k j)) ∧ Below g w w2) (fun p _ => (intOf p).toNat)
      case atStart => exact ⟨i, rfl, by omega, Nat.le_refl _, by rw [Srt.rot_same]; exact hr, (fun h => by omega), hbb⟩
      case round =>
        rename World => w3
        obtain ⟨j, rfl, haj, hji, hr3, hlow, hb3⟩ := hrel
        clear hr hbb hE1
        by_cases hja : a < j
        focus
          have hE3 := hE.below hb3
          have e1 : Srt.rotF j i (i + 1) k (j - 1) = k (j - 1) := Srt.rot_out k (by omega)
          have e2 : Srt.rotF j i (i + 1) k j = k i := by rw [Srt.rot_lo k (by omega) (by omega) (by omega) hji]; congr 1; omega
          have c1 := hr3.cell (k := j) (by omega)
          have c2 := hr3.cell (k := j - 1) (by omega)
          have hjm : (j : Int) - 1 = ((j - 1 : Nat) : Int) := by omega
          have f1 : w3.frozen? ⟨g, j, none⟩ = false := World.ownsRow.frozenAt hr3 _
          have f2 : w3.frozen? ⟨g, j - 1, none⟩ = false := World.ownsRow.frozenAt hr3 _
          have hsw := fun d => (hr3.drewN d).swap j (j - 1)
          rw [Srt.rot_ins k (by omega) hji] at hsw
          rw [e1, e2] at hsw
          rw [e2] at c1
          rw [e1] at c2
          have hxl := HKL.out i (by omega)
          have hyl := HKL.out (j - 1) (by omega)
          have hiff := HL.out _ _ hxl hyl
          have HDONE : Hid (¬ lenN l (k i) < lenN l (k (j - 1)) → Srt.Seg a (i + 1) f (Srt.rotF j i (i + 1) k) ∧ Srt.Sorted (lenN l) a (i + 1) (Srt.rotF j i (i + 1) k)) := fun h => ⟨Srt.ins_seg hk.out.1 haj hji, Srt.ins_done hk.out.2 HKI.out haj hji hlow.out (fun _ => h)⟩
          have HNEXT : Hid (lenN l (k i) < lenN l (k (j - 1)) → j - 1 < i → lenN l (k i) < lenN l (k (j - 1))) := fun h _ => h
          have HSW := fun d => (show Hid (RowSt g n (Srt.rotF (j - 1) i (i + 1) k) _ ∧ Below g (w3.drewN d) _) from hsw d)
          have hcm := fun w hE => cmp_any g bx vl l (k i) (k (j - 1)) w hE hxl hyl (by omega)
          have hz := cz_neg (l.getD (k i) 0) (l.getD (k (j - 1)) 0)
          obtain ⟨z, hzz⟩ : ∃ z, z = cz (l.getD (k i) 0) (l.getD (k (j - 1)) 0) := ⟨_, rfl⟩
          rw [← hzz] at hz hcm
          rw [hiff] at hz
          obtain ⟨x, hx⟩ : ∃ x, x = k i := ⟨_, rfl⟩
          obtain ⟨y, hy⟩ : ∃ y, y = k (j - 1) := ⟨_, rfl⟩
          rw [← hx] at c1 hcm HSW
          rw [← hy] at c2 hcm HSW
          have hE4 := fun d => hE3.drewN d
          have HR3 : Hid (RowSt g n (Srt.rotF j i (i + 1) k) w3) := hr3
          have hjaI : (a : Int) < (j : Int) := by omega
          by_cases hzn : z < 0
          focus
            have HN2 : Hid (j - 1 < i → lenN l (k i) < lenN l (k (j - 1))) := HNEXT.out (hz.1 hzn)
            clear hsw hr3 e1 e2 hiff hzz hx hy HDONE HNEXT hz hE3
            go_wp2
            go_quiet (first | (go_at_call 85; exact Calls.quiet_of (hcm _ (hE4 _))))
            go_wp2
            go_region
            all_goals
              go_wp2
              go_roundw
              case rel => exact ⟨j - 1, by go_num, by omega, by omega, (HSW _).out.1, HN2.out, hb3.trans ((below_drewN (Below.refl g w3) _).trans (by first | exact (HSW _).out.2 | exact (HSW _).out.2.drew))⟩
              case measure => simp [intOf]; omega
          have hD := HDONE.out (fun h => hzn (hz.2 h))
          have HD2 : Hid (Srt.Seg a (i + 1) f (Srt.rotF j i (i + 1) k) ∧ Srt.Sorted (lenN l) a (i + 1) (Srt.rotF j i (i + 1) k)) := hD
          clear hsw hr3 e1 e2 hiff hzz hx hy HDONE HNEXT hz hD hE3 HSW
          go_wp2
          go_quiet (first | (go_at_call 85; exact Calls.quiet_of (hcm _ (hE4 _))))
          go_wp2
          go_roundw
          case rel => exact ⟨i + 1, _, by go_num, by omega, Or.inl (by omega), HR3.out.drewN _, HD2.out, below_drewN hb3 _⟩
          case measure => simp [intOf]; omega
        obtain rfl : j = a := by omega
        have HD2 : Hid (Srt.Seg j (i + 1) f (Srt.rotF j i (i + 1) k) ∧ Srt.Sorted (lenN l) j (i + 1) (Srt.rotF j i (i + 1) k)) := ⟨Srt.ins_seg hk.out.1 haj hji, Srt.ins_done hk.out.2 HKI.out haj hji hlow.out (fun h => absurd h (Nat.lt_irrefl _))⟩
        have hjD : decide ((j : Int) < (j : Int)) = false := decide_eq_false (by omega)
        clear hk HKI HKL hlow
        go_wp2
        go_quiet (fail)
        go_wp2
        go_roundw
        case rel => exact ⟨i + 1, _, by go_num, by omega, Or.inl (by omega), hr3.drewN _, HD2.out, below_drewN hb3 _⟩
        case measure => simp [intOf]; omega
    have HD3 : Hid (Srt.Seg a b f k ∧ Srt.Sorted (lenN l) a b k) := by
      rcases hib with h1 | h1
      · obtain rfl : i = b := by omega
        exact hk.out
      · obtain ⟨h2, h3⟩ := hk.out
        by_cases h4 : i = b
        · subst h4; exact ⟨h2, h3⟩
        · obtain rfl : a = b := by omega
          refine ⟨?_, fun p q p1 p2 p3 => by omega⟩
          obtain ⟨s, g1, g2, g3, g4⟩ := h2
          refine ⟨s, g1, fun x hx => ?_, fun x x1 x2 => by omega, g4⟩
          by_cases h5 : x = a
          · subst h5
            have := g3 x (Nat.le_refl _) (by omega)
            omega
          · exact g2 x (by omega)
    clear hk
    go_wp2
    go_end0
    exact ⟨rfl, k, hr, HD3.out.1, HD3.out.2, hbb⟩
end Go.Proofs.Ytiflpnmkclcimab
