/- ROWS OF WHAT IS AT HAND (three numbers each). CONTRACTS: the program's place, of Lru's, Fifo's, Best's hand. -/
import Derived.Test.YthcjfjgaajjoaanBasis
import Derived.Lib.Hide
import Derived.Deep.RegionHeld
import Derived.Deep.LoopGhost
import Derived.Deep.RegionLaw
import Derived.Lib.AppendZeros
namespace Go.Proofs.Ythcjfjgaajjoaan
open Go.RowKit
set_option linter.unusedVariables false
/-- a number, when it came, when it was called last -/
abbrev Hl := Int × Int × Int
abbrev hl0 : Hl := (0, 0, 0)
def hlC (l : List Hl) : List Value := l.flatMap fun p => [.int .i64 p.1, .int .i64 p.2.1, .int .i64 p.2.2]
theorem hlC_cons (p : Hl) (l : List Hl) : hlC (p :: l) = .int .i64 p.1 :: .int .i64 p.2.1 :: .int .i64 p.2.2 :: hlC l := rfl
theorem hlC_append (l m : List Hl) : hlC (l ++ m) = hlC l ++ hlC m := by unfold hlC; rw [List.flatMap_append]
theorem hlC_len (l : List Hl) : (hlC l).length = l.length * 3 := by
  induction l with
  | nil => rfl
  | cons p t ih => rw [hlC_cons, List.length_cons, List.length_cons, List.length_cons, ih, List.length_cons]; omega
theorem hlC_get : ∀ (l : List Hl) (i : Nat), i < l.length → (hlC l)[i * 3]? = some (.int .i64 (l.getD i hl0).1) ∧ (hlC l)[i * 3 + 1]? = some (.int .i64 (l.getD i hl0).2.1) ∧ (hlC l)[i * 3 + 2]? = some (.int .i64 (l.getD i hl0).2.2)
  | p :: t, 0, _ => ⟨rfl, rfl, rfl⟩
  | p :: t, i + 1, h => by
    obtain ⟨h1, h2, h3⟩ := hlC_get t i (by simpa using h)
    rw [hlC_cons, show (i + 1) * 3 = i * 3 + 1 + 1 + 1 by omega]
    exact ⟨h1, h2, h3⟩
theorem hlC_set : ∀ (l : List Hl) (i : Nat) (c : Int), i < l.length → (hlC l).set (i * 3 + 2) (.int .i64 c) = hlC (l.set i ((l.getD i hl0).1, (l.getD i hl0).2.1, c))
  | q :: t, 0, c, _ => rfl
  | q :: t, i + 1, c, h => by
    have e := hlC_set t i c (by simpa using h)
    rw [hlC_cons, show (i + 1) * 3 = i * 3 + 1 + 1 + 1 by omega]
    show Value.int .i64 q.1 :: Value.int .i64 q.2.1 :: Value.int .i64 q.2.2 :: (hlC t).set (i * 3 + 2) (.int .i64 c) = _
    rw [e]
    rfl
theorem hlC_oneCell (l : List Hl) : ∀ u ∈ hlC l, u.oneCell' = true := by
  intro u hu
  obtain ⟨p, _, h⟩ := List.mem_flatMap.1 hu
  simp only [List.mem_cons, List.mem_nil_iff, or_false] at h
  rcases h with rfl | rfl | rfl <;> rfl
theorem hlC_take (l : List Hl) (k : Nat) (hk : k ≤ l.length) : (hlC l).take (k * 3) = hlC (l.take k) := by
  have e : hlC l = hlC (l.take k) ++ hlC (l.drop k) := by rw [← hlC_append, List.take_append_drop]
  rw [e, List.take_append_of_le_length (by rw [hlC_len, List.length_take]; omega), List.take_of_length_le (by rw [hlC_len, List.length_take]; omega)]
theorem hlC_drop (l : List Hl) (k : Nat) (hk : k ≤ l.length) : (hlC l).drop (k * 3) = hlC (l.drop k) := by
  have e : hlC l = hlC (l.take k) ++ hlC (l.drop k) := by rw [← hlC_append, List.take_append_drop]
  have hle : (hlC (l.take k)).length = k * 3 := by rw [hlC_len, List.length_take]; omega
  rw [e, ← hle, List.drop_left]
def CellsH (b : Nat) (l : List Hl) (w : World) : Prop := ∀ j, j < l.length → w.cell? ⟨b, j * 3, none⟩ = some (.int .i64 (l.getD j hl0).1) ∧ w.cell? ⟨b, j * 3 + 1, none⟩ = some (.int .i64 (l.getD j hl0).2.1) ∧ w.cell? ⟨b, j * 3 + 2, none⟩ = some (.int .i64 (l.getD j hl0).2.2)
theorem cellsH_below {b : Nat} {l : List Hl} {w w' : World} (h : CellsH b l w) (hlt : b < w.heap.size) (hb : Below w.heap.size w w') : CellsH b l w' :=
  fun j hj => ⟨(hb.cell (p := ⟨b, j * 3, none⟩) hlt).trans (h j hj).1, (hb.cell (p := ⟨b, j * 3 + 1, none⟩) hlt).trans (h j hj).2.1, (hb.cell (p := ⟨b, j * 3 + 2, none⟩) hlt).trans (h j hj).2.2⟩
abbrev OwnH (w : World) (B : Nat) (v : Value) (l : List Hl) : Prop := w.ownsRow B 78 3 v l.length (hlC l)
theorem Try.infoHl : (Try.prog.info? 78).map (fun i => (i.zero, i.size, i.bytes)) = some (some (.agg #[.int .i64 0, .int .i64 0, .int .i64 0]), 3, 24) := by kernel_rfl
/-- the walk's view of it -/
theorem ownH_cases {w : World} {B : Nat} {v : Value} {l : List Hl} (h : OwnH w B v l) :
    (l = [] ∧ v = .slice none 0 0) ∨ ∃ g cap cur, v = .slice (some ⟨g, 0, none⟩) l.length cap ∧ B ≤ g ∧ g < w.heap.size ∧ l.length ≤ cap ∧ cap ≤ maxLen ∧ w.heap[g]? = some (.cells cur 78 (0, 0)) ∧ cur.size = cap * 3 ∧ cur.toList.take (l.length * 3) = hlC l ∧ CellsH g l w := by
  rcases h.2 with ⟨h1, h2⟩ | ⟨g, cap, cur, rfl, hg, hh, hn, hm, hs, ht⟩
  · exact Or.inl ⟨List.eq_nil_of_length_eq_zero h2, h1⟩
  · refine Or.inr ⟨g, cap, cur, rfl, hg, (Array.getElem?_eq_some_iff.1 hh).1, hn, hm, hh, hs, ht, fun j hj => ?_⟩
    obtain ⟨h1, h2, h3⟩ := hlC_get l j hj
    have hl := hlC_len l
    rw [← h1, ← h2, ← h3]
    exact ⟨h.cellAt (j * 3) (by omega), h.cellAt (j * 3 + 1) (by omega), h.cellAt (j * 3 + 2) (by omega)⟩
theorem ownH_shape {w : World} {B : Nat} {v : Value} {l : List Hl} (h : OwnH w B v l) : ∃ ao cap, v = .slice ao l.length cap := by
  rcases ownH_cases h with ⟨rfl, rfl⟩ | ⟨g, cap, cur, rfl, _⟩
  · exact ⟨none, 0, rfl⟩
  · exact ⟨_, cap, rfl⟩
/-- where q is: -1 where it is nowhere -/
def placeL (q : Int) : List Hl → Nat → Int
  | [], _ => -1
  | p :: t, k => if p.1 = q then (k : Int) else placeL q t (k + 1)
theorem drop_hl {l : List Hl} {i : Nat} (hi : i < l.length) : l.drop i = l.getD i hl0 :: l.drop (i + 1) := by
  rw [List.drop_eq_getElem_cons hi]
  simp [List.getD, hi]
theorem placeL_is (q : Int) : ∀ (l : List Hl) (k : Nat), (placeL q l k = -1 ∧ ∀ p ∈ l, p.1 ≠ q) ∨ ∃ j : Nat, placeL q l k = ((k + j : Nat) : Int) ∧ j < l.length ∧ (l.getD j hl0).1 = q
  | [], k => Or.inl ⟨rfl, fun p hp => by cases hp⟩
  | p :: t, k => by
    by_cases h : p.1 = q
    · exact Or.inr ⟨0, by show (if p.1 = q then _ else _) = _; rw [if_pos h]; rfl, by simp, h⟩
    · have e : placeL q (p :: t) k = placeL q t (k + 1) := by show (if p.1 = q then _ else _) = _; rw [if_neg h]
      rw [e]
      rcases placeL_is q t (k + 1) with ⟨h1, h2⟩ | ⟨j, h1, h2, h3⟩
      · exact Or.inl ⟨h1, fun x hx => by
          rcases List.mem_cons.1 hx with rfl | hx
          · exact h
          · exact h2 x hx⟩
      · exact Or.inr ⟨j + 1, by rw [h1]; congr 1; omega, by simpa using h2, h3⟩
theorem isN_any (a b c q : Int) (bx : Nat) (w : World) (hx : bx < w.heap.size) (hc : w.cell? ⟨bx, 0, none⟩ = some (.int .i64 q)) :
    Calls Try.prog 46 #[.agg #[.int .i64 a, .int .i64 b, .int .i64 c], .pointer (some ⟨bx, 0, none⟩)] w fun e w' => e = .returned (.bool (decide (a = q))) ∧ Below w.heap.size w w' := by
  have hb := (Below.refl w.heap.size w).alloc (Nat.le_refl _) (.cells #[.int .i64 a, .int .i64 b, .int .i64 c] 78)
  have hc1 := (hb.cell (p := ⟨bx, 0, none⟩) hx).trans hc
  by_cases h : a = q
  · have g1 : (a == q) = true := by simp [h]
    rw [decide_eq_true h]
    clear h
    go_enter Try.func46, Try.ntmps46
    go_wp2
    go_ret
    exact ⟨by first | rfl | (rw [g1]), hb⟩
  · have g1 : (a == q) = false := by simp [h]
    rw [decide_eq_false h]
    clear h
    go_enter Try.func46, Try.ntmps46
    go_wp2
    go_ret
    exact ⟨by first | rfl | (rw [g1]), hb⟩
set_option maxHeartbeats 1000000 in
set_option maxRecDepth 100000 in
theorem indexH_any (B : Nat) (v : Value) (l : List Hl) (q : Int) (bx : Nat) (w : World) (ho : OwnH w B v l) (hl : l.length ≤ 1048576) (hx : bx < w.heap.size) (hc : w.cell? ⟨bx, 0, none⟩ = some (.int .i64 q)) :
    Calls Try.prog 45 #[v, .func (.func 46) #[] #[.pointer (some ⟨bx, 0, none⟩)]] w fun e w' => e = .returned (.int .i64 (placeL q l 0)) ∧ Below w.heap.size w w' := by
  rcases ownH_cases ho with ⟨rfl, rfl⟩ | ⟨g, cap, cur, rfl, _, hg, _, _, _, _, _, hcs⟩
  · clear ho
    go_enter Try.func45, Try.ntmps45
    go_wp2
    refine wp_loop_rounds 1 ?_
    rw [rounds_succ]
    go_wp2
    go_ret
    exact ⟨rfl, Below.refl _ _⟩
  have HA : Hid (CellsH g l w) := hcs
  have HST : Hid (∀ k, k < l.length → placeL q (l.drop k) k = if (l.getD k hl0).1 = q then (k : Int) else placeL q (l.drop (k + 1)) (k + 1)) := fun k hk => by
    rw [drop_hl hk]
    rfl
  have HEND : Hid (placeL q (l.drop l.length) l.length = -1) := by show _ = _; rw [List.drop_length]; rfl
  have H0 : Hid (placeL q (l.drop 0) 0 = placeL q l 0) := rfl
  generalize placeL q l 0 = R at H0 ⊢
  obtain ⟨n, hn⟩ : ∃ n, n = l.length := ⟨_, rfl⟩
  rw [← hn] at hl HST HEND ⊢
  have HN : Hid (n = l.length) := hn
  clear hcs hn ho
  go_enter Try.func45, Try.ntmps45
  go_wp2
  go_loopw [8] (fun i wr => ∃ k : Nat, k ≤ n ∧ i = .int .i64 k ∧ Hid (Below w.heap.size w wr) ∧ Hid (placeL q (l.drop k) k = R)) (fun i _ => n - (intOf i).toNat)
  case atStart => exact ⟨0, Nat.zero_le _, rfl, Below.refl _ _, H0⟩
  case round =>
    rename World => wr
    obtain ⟨k, hk, rfl, hb, hR⟩ := hrel
    clear H0
    by_cases hltk : k < n
    focus
      have hs1 := hb.out.size
      have hkl : k < l.length := by have := HN.out; omega
      obtain ⟨d0, d1, d2⟩ := cellsH_below HA.out hg hb.out k hkl
      have hst := HST.out k hltk
      rw [hR.out] at hst
      have HS := Lib.hid hst
      obtain ⟨x, hx9⟩ : ∃ x, x = l.getD k hl0 := ⟨_, rfl⟩
      rw [← hx9] at d0 d1 d2 HS
      obtain ⟨x1, x2, x3⟩ := x
      simp only at d0 d1 d2 HS
      clear hx9 hkl hst hR
      have hcall := isN_any x1 x2 x3 q bx wr (by omega) ((hb.out.cell (p := ⟨bx, 0, none⟩) hx).trans hc)
      by_cases hw : x1 = q
      · rw [decide_eq_true hw] at hcall
        have HR : Hid (R = (k : Int)) := by have h9 := HS.out; rw [if_pos hw] at h9; exact h9
        clear HS hw
        go_wp2_with fail
        refine hcall.mono ?_
        rintro e w2 ⟨rfl, hb2⟩
        have HB2 := Lib.hid (hb.out.trans (hb2.mono hs1))
        clear hcall hb2
        go_wp2
        go_ret
        exact ⟨by rw [HR.out]; rfl, HB2.out⟩
      · rw [decide_eq_false hw] at hcall
        have HNW : Hid (placeL q (l.drop (k + 1)) (k + 1) = R) := by have h9 := HS.out; rw [if_neg hw] at h9; exact h9.symm
        clear HS hw
        go_wp2_with fail
        refine hcall.mono ?_
        rintro e w2 ⟨rfl, hb2⟩
        have HB2 := Lib.hid (hb.out.trans (hb2.mono hs1))
        clear hcall hb2
        go_wp2
        go_roundw
        case rel => exact ⟨k + 1, by omega, by go_num, HB2, HNW⟩
        case measure => simp [intOf]; omega
    have HR : Hid (R = -1) := by
      have e : k = n := by omega
      have h9 := hR.out
      rw [e, HEND.out] at h9
      exact h9.symm
    clear hR
    go_wp2
    go_ret
    exact ⟨by rw [HR.out]; rfl, hb.out⟩
theorem place_any (B : Nat) (v : Value) (l : List Hl) (q : Int) (w : World) (ho : OwnH w B v l) (hl : l.length ≤ 1048576) :
    Calls Try.prog 41 #[v, .int .i64 q] w fun e w' => e = .returned (.int .i64 (placeL q l 0)) ∧ Below w.heap.size w w' := by
  have hb := (Below.refl w.heap.size w).alloc (Nat.le_refl _) (.cells #[.int .i64 q] 2)
  have hcall := indexH_any B v l q w.heap.size (w.alloc (.cells #[.int .i64 q] 2)) (owns_below ho hb) hl (by rw [World.size_alloc]; omega) (by
    rw [cell_of_row _ w.heap.size 0 _ _ (0, 0) (heap_alloc_new w (.cells #[.int .i64 q] 2))]; rfl)
  generalize placeL q l 0 = R at hcall ⊢
  obtain ⟨ao, cap, rfl⟩ := ownH_shape ho
  clear ho
  have hsz : w.heap.size ≤ (w.alloc (.cells #[.int .i64 q] 2)).heap.size := by rw [World.size_alloc]; omega
  go_enter Try.func41, Try.ntmps41
  go_wp2_with fail
  refine hcall.mono ?_
  rintro e w2 ⟨rfl, hb2⟩
  have HB := Lib.hid (hb.trans (hb2.mono hsz))
  clear hcall hb2
  go_wp2
  go_ret
  exact ⟨rfl, HB.out⟩
end Go.Proofs.Ythcjfjgaajjoaan
