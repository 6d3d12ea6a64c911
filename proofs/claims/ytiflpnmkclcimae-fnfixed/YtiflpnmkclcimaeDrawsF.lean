/- CONTRACT: spec.DrawLengths alone (DrawsM holds it, too, beside the other draws of chapter 5). -/
import Derived.Test.YtiflpnmkclcimaeDrawsL
namespace Go.Proofs.Ytiflpnmkclcimae
open Go.RowKit
set_option linter.unusedVariables false

theorem owns_mono5 {w : World} {b b' : Nat} {e : TypeId} {size : Nat} {v : Value} {n : Nat} {xs : List Value} (h : w.ownsRow b e size v n xs) (hb : b' ≤ b) : w.ownsRow b' e size v n xs := by
  obtain ⟨h1, h2⟩ := h
  refine ⟨h1, ?_⟩
  rcases h2 with h2 | ⟨g, cp, cur, hv, hg, h3⟩
  · exact .inl h2
  · exact .inr ⟨g, cp, cur, hv, Nat.le_trans hb hg, h3⟩
set_option maxRecDepth 100000 in
theorem drawLengths_any (va : Value) (bs : List Int) (w : World) (ha : Rd w va (cellsByteS bs)) (hl : bs.length ≤ 4096) (hz : Bytes bs) :
    Calls Try.prog 11 #[va] w fun e w' => ∃ (v' : Value) (xs : List Int), e = .returned v' ∧ xs.length ≤ 40 ∧ w'.ownsRow w.heap.size 2 1 v' xs.length (cellsInt64S xs) ∧ Below w.heap.size w w' := by
  go_enter Try.func11, Try.ntmps11
  go_wp2_with fail
  refine (new_any va bs w ha hl (codeR hz)).mono ?_
  rintro e w1 ⟨rfl, hst1, hb1, hs1⟩
  go_wp2_with fail
  refine (draw5_any w.heap.size va bs w1 hst1 hl (codeR hz)).mono ?_
  rintro e w3 ⟨v3, xs, rfl, hx3, ho3, hst3, hg3⟩
  have hb3 : Below w.heap.size w w3 := hb1.grown hg3 hb1.size (fun k hk => by cases hk; exact Nat.le_refl _)
  have ho4 := owns_mono5 ho3 (show w.heap.size ≤ w1.heap.size by omega)
  clear hst1 hst3 hg3 hb1 ha hz ho3
  go_wp2
  go_ret
  exact ⟨_, xs, rfl, hx3, ho4, hb3⟩
end Go.Proofs.Ytiflpnmkclcimae
