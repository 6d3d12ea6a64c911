/- CONTRACTS: spec.DrawLengths, DrawKraft, DrawCost (DrawsM holds them, too, beside the draws of codes). -/
import Derived.Test.YtgcpdifggjkdhabDrawsL
namespace Go.Proofs.Ytgcpdifggjkdhab
open Go.RowKit
set_option linter.unusedVariables false

theorem owns_mono5 {w : World} {b b' : Nat} {e : TypeId} {size : Nat} {v : Value} {n : Nat} {xs : List Value} (h : w.ownsRow b e size v n xs) (hb : b' ≤ b) : w.ownsRow b' e size v n xs := by
  obtain ⟨h1, h2⟩ := h
  refine ⟨h1, ?_⟩
  rcases h2 with h2 | ⟨g, cp, cur, hv, hg, h3⟩
  · exact .inl h2
  · exact .inr ⟨g, cp, cur, hv, Nat.le_trans hb hg, h3⟩
set_option maxRecDepth 100000 in
theorem drawLengths_any (va : Value) (bs : List Int) (w : World) (ha : Rd w va (cellsByteS bs)) (hl : bs.length ≤ 4096) (hz : Bytes bs) :
    Calls Try.prog 17 #[va] w fun e w' => ∃ (v' : Value) (xs : List Int), e = .returned v' ∧ xs.length ≤ 40 ∧ w'.ownsRow w.heap.size 2 1 v' xs.length (cellsInt64S xs) ∧ Below w.heap.size w w' := by
  go_enter Try.func17, Try.ntmps17
  go_wp2_with fail
  refine (new_any va bs w ha hl (codeR hz)).mono ?_
  rintro e w1 ⟨rfl, hst1, hb1, hs1⟩
  go_wp2_with fail
  refine (draw5_any w.heap.size va bs w1 hst1 hl (codeR hz)).mono ?_
  rintro e w3 ⟨v3, xs, rfl, hx3, ho3, hst3, hg3⟩
  have hb3 : Below w.heap.size w w3 := hb1.grown hg3 hb1.size (fun k hk => by cases hk; exact Nat.le_refl _)
  have ho4 := owns_mono5 ho3 (show w.heap.size ≤ w1.heap.size by omega)
  clear hst1 hst3 hg3 hb1 ha hz ho3
  go_wp2
  go_ret
  exact ⟨_, xs, rfl, hx3, ho4, hb3⟩
set_option maxRecDepth 100000 in
theorem drawKraft_any (va : Value) (bs : List Int) (w : World) (ha : Rd w va (cellsByteS bs)) (hl : bs.length ≤ 4096) (hz : Bytes bs) :
    Calls Try.prog 20 #[va] w fun e w' => ∃ (v' : Value) (xs : List Int), e = .returned v' ∧ xs.length ≤ 32 ∧ w'.ownsRow w.heap.size 2 1 v' xs.length (cellsInt64S xs) ∧ Below w.heap.size w w' := by
  go_enter Try.func20, Try.ntmps20
  go_wp2_with fail
  refine (new_any va bs w ha hl (codeR hz)).mono ?_
  rintro e w1 ⟨rfl, hst1, hb1, hs1⟩
  go_wp2_with fail
  refine (drawLens_any w.heap.size va bs w1 hst1 hl (codeR hz)).mono ?_
  rintro e w3 ⟨v3, xs, rfl, hx3, ho3, hst3, hg3⟩
  have hb3 : Below w.heap.size w w3 := hb1.grown hg3 hb1.size (fun k hk => by cases hk; exact Nat.le_refl _)
  have ho4 := owns_mono5 ho3 (show w.heap.size ≤ w1.heap.size by omega)
  clear hst1 hst3 hg3 hb1 ha hz ho3
  go_wp2
  go_ret
  exact ⟨_, xs, rfl, hx3, ho4, hb3⟩
set_option maxRecDepth 100000 in
theorem drawCost_any (va : Value) (bs : List Int) (w : World) (ha : Rd w va (cellsByteS bs)) (hl : bs.length ≤ 4096) (hz : Bytes bs) :
    Calls Try.prog 19 #[va] w fun e w' => ∃ (v1 v2 : Value) (xs ys : List Int), e = .returned (.tuple #[v1, v2]) ∧ xs.length ≤ 40 ∧ ys.length ≤ 32 ∧ w'.ownsRow w.heap.size 2 1 v1 xs.length (cellsInt64S xs) ∧ w'.ownsRow w.heap.size 2 1 v2 ys.length (cellsInt64S ys) ∧ Below w.heap.size w w' := by
  have HZ := Lib.hid (codeR hz)
  go_enter Try.func19, Try.ntmps19
  go_wp2_with fail
  refine (new_any va bs w ha hl HZ.out).mono ?_
  rintro e w1 ⟨rfl, hst1, hb1, hs1⟩
  go_wp2_with fail
  refine (draw5_any w.heap.size va bs w1 hst1 hl HZ.out).mono ?_
  rintro e w3 ⟨v3, xs, rfl, hx3, ho3, hst3, hg3⟩
  have hb3 : Below w.heap.size w w3 := hb1.grown hg3 hb1.size (fun k hk => by cases hk; exact Nat.le_refl _)
  have hs3 := hg3.size
  clear hst1 hg3 hb1 ha hz
  go_wp2_with fail
  refine (specLengths_any v3 xs w3 (rd_owns ho3) (by omega)).mono ?_
  rintro e w4 ⟨v4, rfl, ho4, hb4⟩
  have hL := lengthsT_len xs
  generalize lengthsT xs = L at ho4 hL
  have hst4 : St w4 w.heap.size va bs := st_below hst3 (hb4.mono (by omega))
  have ho34 := owns_below ho3 hb4
  have hb4w := hb3.trans (hb4.mono hb3.size)
  have hs4 := hb4.size
  clear ho3 hst3 hb3 hb4
  go_wp2_with fail
  refine (once_any w.heap.size va bs 3 _ hst4 hl HZ.out (by omega)).mono ?_
  rintro e w5 ⟨b, rfl, hst5, hg5⟩
  have ho35 := owns_grown ho34 hg5 (fun k hk h => by cases hk; have := (ho34.lt _ h).1; omega)
  have ho45 := owns_grown ho4 hg5 (fun k hk h => by cases hk; have := (ho4.lt _ h).1; omega)
  have hb5 : Below w.heap.size w w5 := hb4w.grown hg5 hb4w.size (fun k hk => by cases hk; exact Nat.le_refl _)
  have hs5 := hg5.size
  have HST5 := Lib.hid hst5
  clear ho34 ho4 hst4 hst5 hg5 hb4w
  cases b with
  | false =>
    have o1 := owns_mono5 ho35 (show w.heap.size ≤ w1.heap.size by omega)
    have o2 := owns_mono5 ho45 (show w.heap.size ≤ w3.heap.size by omega)
    clear ho35 ho45
    go_wp2
    go_ret2
    exact ⟨_, _, xs, L, rfl, hx3, hL, o1, o2, hb5⟩
  | true =>
    go_wp2_with fail
    refine (drawLens_any w.heap.size va bs w5 HST5.out hl HZ.out).mono ?_
    rintro e w6 ⟨v6, ys, rfl, hy6, ho6, _, hg6⟩
    have ho36 := owns_grown ho35 hg6 (fun k hk h => by cases hk; have := (ho35.lt _ h).1; omega)
    have hb6 : Below w.heap.size w w6 := hb5.grown hg6 hb5.size (fun k hk => by cases hk; exact Nat.le_refl _)
    have o1 := owns_mono5 ho36 (show w.heap.size ≤ w1.heap.size by omega)
    have o2 := owns_mono5 ho6 (show w.heap.size ≤ w5.heap.size by omega)
    clear ho35 ho45 ho36 ho6 hg6
    go_wp2
    go_ret2
    exact ⟨_, _, xs, ys, rfl, hx3, hy6, o1, o2, hb6⟩
end Go.Proofs.Ytgcpdifggjkdhab
