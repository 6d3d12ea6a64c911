/- CONTRACTS: the specification's Score, Ranks, Winner. -/
import Derived.Test.YtidmaaglfckcbaoDoorScoM
import Derived.Deep.QuietTactic
namespace Go.Proofs.YtidmaaglfckcbaoDoor
open Go.RowKit
set_option linter.unusedVariables false
set_option maxHeartbeats 1000000 in
theorem specScore_any (n k : Int) (w : World) (hn : n ≤ 9223372036854775807) (hk : k ≤ 9223372036854775807) :
    Calls Tryd.prog 13 #[.int .i64 n, .int .i64 k] w fun e w' => e = .returned (.int .i64 (scoT n k)) ∧ Below w.heap.size w w' := by
  by_cases h0 : n < 0
  focus
    have e : scoT n k = -1 := by unfold scoT; rw [if_neg (by omega)]
    rw [e]
    go_enter Tryd.func13, Tryd.ntmps13
    go_wp2
    go_ret
    exact ⟨rfl, Below.refl _ _⟩
  by_cases h1 : k < 0
  focus
    have e : scoT n k = -1 := by unfold scoT; rw [if_neg (by omega)]
    rw [e]
    go_enter Tryd.func13, Tryd.ntmps13
    go_wp2
    go_ret
    exact ⟨rfl, Below.refl _ _⟩
  have e : scoT n k = digest (scoX n.toNat k.toNat) := by unfold scoT; rw [if_pos ⟨by omega, by omega⟩]
  rw [e]
  obtain ⟨a, ha⟩ : ∃ a : Nat, n = (a : Int) := ⟨n.toNat, by omega⟩
  obtain ⟨b, hb⟩ : ∃ b : Nat, k = (b : Int) := ⟨k.toNat, by omega⟩
  have hat : n.toNat = a := by omega
  have hbt : k.toNat = b := by omega
  rw [hat, hbt]
  subst ha
  subst hb
  have hint := l1Int_any a w (by omega)
  have hint2 := fun W => l1Int_any b W (by omega)
  have hs1 := (decN_size a).1
  have hs2 := (decN_size b).1
  have e1 : (⟨#[47]⟩ : ByteArray).size = 1 := rfl
  have hX : scoX a b = (decN a ++ ⟨#[47]⟩) ++ decN b := rfl
  have hz1 : (decN a ++ ⟨#[47]⟩ : ByteArray).size ≤ 21 := by rw [ByteArray.size_append]; omega
  have hXs : (scoX a b).size ≤ 41 := by rw [hX, ByteArray.size_append]; omega
  have ha1 : ∀ W : World, (Op.stringOp .add (decN a) ⟨#[47]⟩).run Tryd.prog W = .ok (.string (decN a ++ ⟨#[47]⟩)) W := fun W => run_string_add_sum W _ _ (by omega)
  have ha2 : ∀ W : World, (Op.stringOp .add (decN a ++ ⟨#[47]⟩) (decN b)).run Tryd.prog W = .ok (.string ((decN a ++ ⟨#[47]⟩) ++ decN b)) W := fun W => run_string_add_sum W _ _ (by omega)
  rw [← hX] at ha2
  have hdig := fun W => specDigest_any (scoX a b) W (by omega)
  generalize scoX a b = t at ha2 hdig ⊢
  generalize decN a ++ ⟨#[47]⟩ = t1 at ha1 ha2
  generalize decN a = d1 at ha1 hint
  generalize decN b = d2 at ha2 hint2
  generalize digest t = dg at hdig ⊢
  clear e hat hbt hs1 hs2 e1 hX hz1 hXs h0 h1
  have h0 : ¬ (a : Int) < 0 := by omega
  have h1 : ¬ (b : Int) < 0 := by omega
  go_enter Tryd.func13, Tryd.ntmps13
  go_wp2_with fail
  refine hint.mono ?_
  rintro e w1 ⟨rfl, hb1⟩
  clear hint
  go_wp2_with fail
  refine (hint2 _).mono ?_
  rintro e w2 ⟨rfl, hb2⟩
  have hb3 := hb1.trans (hb2.mono hb1.size)
  clear hint2 hb1 hb2
  go_wp2_with fail
  refine (hdig _).mono ?_
  rintro e w3 ⟨rfl, rfl⟩
  clear hdig
  go_wp2
  go_ret
  exact ⟨rfl, hb3⟩
end Go.Proofs.YtidmaaglfckcbaoDoor
