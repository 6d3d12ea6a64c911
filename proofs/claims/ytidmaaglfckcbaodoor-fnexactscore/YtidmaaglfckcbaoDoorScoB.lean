/- CONTRACTS: the program's Score; cmp.Or; which of two scores is ahead; slices.Index, slices.Contains of a row of scores. -/
import Derived.Test.YtidmaaglfckcbaoDoorScoR
import Derived.Test.YtidmaaglfckcbaoDoorTabL
import Derived.Test.YtidmaaglfckcbaoDoorBltg
import Derived.Test.YtidmaaglfckcbaoDoorCmp
import Derived.Test.YtidmaaglfckcbaoDoorDots
import Derived.Test.YtidmaaglfckcbaoDoorIdxL
import Derived.Sort.Grow
import Derived.Deep.RegionHeld
namespace Go.Proofs.YtidmaaglfckcbaoDoor
open Go.RowKit
set_option linter.unusedVariables false
set_option maxHeartbeats 1000000 in
theorem implScore_any (n k : Int) (w : World) (htab : TabP w) (hn : n ≤ 9223372036854775807) (hk : k ≤ 9223372036854775807) :
    Calls Tryd.prog 14 #[.int .i64 n, .int .i64 k] w fun e w' => e = .returned (.int .i64 (scoT n k)) ∧ Below w.heap.size w w' := by
  by_cases h0 : n < 0
  focus
    have e : scoT n k = -1 := by unfold scoT; rw [if_neg (by omega)]
    rw [e]
    clear htab
    go_enter Tryd.func14, Tryd.ntmps14
    go_wp2
    go_ret
    exact ⟨rfl, Below.refl _ _⟩
  by_cases h1 : k < 0
  focus
    have e : scoT n k = -1 := by unfold scoT; rw [if_neg (by omega)]
    rw [e]
    clear htab
    go_enter Tryd.func14, Tryd.ntmps14
    go_wp2
    go_ret
    exact ⟨rfl, Below.refl _ _⟩
  have e : scoT n k = digest (scoX n.toNat k.toNat) := by unfold scoT; rw [if_pos ⟨by omega, by omega⟩]
  rw [e]
  obtain ⟨a, ha⟩ : ∃ a : Nat, n = (a : Int) := ⟨n.toNat, by omega⟩
  obtain ⟨b, hb⟩ : ∃ b : Nat, k = (b : Int) := ⟨k.toNat, by omega⟩
  have hat : n.toNat = a := by omega
  have hbt : k.toNat = b := by omega
  rw [hat, hbt]
  subst ha
  subst hb
  have hint := formatTab_any a (by omega) w htab
  have hint2 := Lib.hid (fun (W : World) (hW : Below w.heap.size w W) => formatTab_any b (by omega) W (tab_below htab hW))
  have hs1 := (decN_size a).1
  have hs2 := (decN_size b).1
  have e1 : (⟨#[47]⟩ : ByteArray).size = 1 := rfl
  have hX : scoX a b = (decN a ++ ⟨#[47]⟩) ++ decN b := rfl
  have hz1 : (decN a ++ ⟨#[47]⟩ : ByteArray).size ≤ 21 := by rw [ByteArray.size_append]; omega
  have hXs : (scoX a b).size ≤ 41 := by rw [hX, ByteArray.size_append]; omega
  have ha1 : ∀ W : World, (Op.stringOp .add (decN a) ⟨#[47]⟩).run Tryd.prog W = .ok (.string (decN a ++ ⟨#[47]⟩)) W := fun W => run_string_add_sum W _ _ (by omega)
  have ha2 : ∀ W : World, (Op.stringOp .add (decN a ++ ⟨#[47]⟩) (decN b)).run Tryd.prog W = .ok (.string ((decN a ++ ⟨#[47]⟩) ++ decN b)) W := fun W => run_string_add_sum W _ _ (by omega)
  rw [← hX] at ha2
  have hdig := fun W => implDigest_any (scoX a b) W (by omega)
  generalize scoX a b = t at ha2 hdig ⊢
  generalize decN a ++ ⟨#[47]⟩ = t1 at ha1 ha2
  generalize decN a = d1 at ha1 hint
  generalize decN b = d2 at ha2 hint2
  generalize digest t = dg at hdig ⊢
  clear e hat hbt hs1 hs2 e1 hX hz1 hXs h0 h1 htab
  have h0 : ¬ (a : Int) < 0 := by omega
  have h1 : ¬ (b : Int) < 0 := by omega
  go_enter Tryd.func14, Tryd.ntmps14
  go_wp2_with fail
  refine hint.mono ?_
  rintro e w1 ⟨rfl, hb1⟩
  have hcall := hint2.out w1 hb1
  clear hint hint2
  go_wp2_with fail
  refine hcall.mono ?_
  rintro e w2 ⟨rfl, hb2⟩
  have HB3 := Lib.hid (hb1.trans (hb2.mono hb1.size))
  clear hcall hb1 hb2
  go_wp2_with fail
  refine (hdig _).mono ?_
  rintro e w3 ⟨rfl, rfl⟩
  clear hdig
  go_wp2
  go_ret
  exact ⟨rfl, HB3.out⟩
def orI (a b : Int) : Int := if a = 0 then b else a
theorem two_cells (W : World) (a b : Value) (T : TypeId) (g : Nat) (hg : g = W.heap.size) : (W.alloc (.cells #[a, b] T)).drew.cell? ⟨g, 0, none⟩ = some a ∧ (W.alloc (.cells #[a, b] T)).drew.cell? ⟨g, 1, none⟩ = some b := by
  subst hg
  have h := heap_alloc_new W (.cells #[a, b] T)
  exact ⟨cell_of_row _ W.heap.size 0 _ _ (0, 0) h, cell_of_row _ W.heap.size 1 _ _ (0, 0) h⟩
theorem three_new (w : World) (a b c : Obj) : (((w.alloc a).alloc b).alloc c).drew = Sort.grow (w.drewN 1) #[a, b, c] := by
  rw [Sort.alloc_eq_grow, Sort.alloc_eq_grow, Sort.alloc_eq_grow, Sort.grow_grow, Sort.grow_grow]; rfl
/-- below 0 where the first is ahead: the greater score, of alike ones the less node -/
def agI (s o : Dt) : Int := orI (cmpI o.1 s.1) (cmpI s.2 o.2)
end Go.Proofs.YtidmaaglfckcbaoDoor
