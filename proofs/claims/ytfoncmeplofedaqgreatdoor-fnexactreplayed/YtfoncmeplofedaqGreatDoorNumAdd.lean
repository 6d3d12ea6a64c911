/- CONTRACT: the program's set of numbers: add. -/
import Derived.Test.YtfoncmeplofedaqGreatDoorBuna
import Derived.Maps.OwnSet
import Derived.Maps.Views
namespace Go.Proofs.YtfoncmeplofedaqGreatDoor
open Go.RowKit Go.Maps
set_option linter.unusedVariables false
theorem ret_boolN {a b : Bool} (h : a = b) : Ending.returned (.bool a) = .returned (.bool b) := by rw [h]
theorem lawK7 : Keyed Tryz.prog 2 := int_keyed Tryz.underlying2
theorem zeroU (w : World) : (zeroValue 144).run Tryz.prog w = .ok (.agg #[]) w := by kernel_rfl
theorem key7 {d : Int} (h : -9223372036854775808 ≤ d ∧ d ≤ 9223372036854775807) : keyOf Tryz.prog 2 (.int .i64 d) = some (.int .i64 d) :=
  keyOf_int_mk Tryz.underlying2 (by simp [Lit.wf, IntKind.min, IntKind.max, IntKind.signed, IntKind.bits]; omega)
theorem keyL7 {d : Int} : WideAt.IsKeyLit (.int .i64 d) := by first | trivial | simp [WideAt.IsKeyLit]
abbrev unitD : DataW Unit := .agg []
abbrev SetM (bm n : Nat) (D : DataW Unit) (w : World) : Prop := w.ownsMap Tryz.prog 2 (unitElem (H := Unit)) bm n D
set_option maxRecDepth 100000 in
theorem add_any (bm n : Nat) (D : DataW Unit) (d : Int) (w : World) (hd : -9223372036854775808 ≤ d ∧ d ≤ 9223372036854775807) (hown : SetM bm n D w) (hn : n ≤ 16777216) :
    Calls Tryz.prog 85 #[.map (some bm), .int .i64 d] w fun e w' => e = .returned (.bool (!(has D (.int .i64 d)))) ∧ SetM bm (n + 1) (D.put (.int .i64 d) unitD) w' ∧ w.grownBy w' (some bm) := by
  have hkey := key7 hd
  have HSZ : Hid (∀ w' : World, SetM bm (n + 1) (D.put (.int .i64 d) unitD) w' → decide ((Maps.size D : Int) < (Maps.size (D.put (.int .i64 d) unitD) : Int)) = !(has D (.int .i64 d))) := fun w' hw => by
    rw [size_put (hown.tidy lawK7) unitD]
    cases has D (.int .i64 d) with
    | true => simp
    | false => simp; omega
  generalize has D (.int .i64 d) = r at HSZ ⊢
  have hs1 := hown.size_le
  go_enter Tryz.func85, Tryz.ntmps85
  go_wp2_with (first
    | (at_len; refine wpList_len_own _ rfl _ 125 rfl 2 144 Tryz.underlying125 _ bm _ _ rfl (by first | exact hown | exact hown2) ?_)
    | (at_mapUpdate; refine wpList_mapUpdate_own _ rfl _ _ _ 125 rfl 2 144 lawK7 Tryz.underlying125 _ bm n D rfl hown (by unfold maxLen; omega) _ _ _ rfl rfl hkey unitD [] unitElem_mk ?_; intro w2 hown2 hgrow2; have HR := Lib.hid (HSZ.out w2 hown2))
    | go_in)
  go_ret
  exact ⟨ret_boolN (by first | exact HR.out | (rw [← HR.out]; simp)), hown2, hgrow2⟩
theorem setM_grown {bm n : Nat} {D : DataW Unit} {w w' : World} {row : Option Nat} (h : SetM bm n D w) (hg : w.grownBy w' row) (hne : some bm ≠ row) : SetM bm n D w' := World.ownsMap.kept h hg hne
theorem setM_below {bm n : Nat} {D : DataW Unit} {w w' : World} (h : SetM bm n D w) (hb : Below w.heap.size w w') : SetM bm n D w' :=
  setM_grown (row := none) h ⟨hb.os, hb.tape, hb.output, hb.size, fun k hk _ => hb.block k hk⟩ (by simp)
/-- the set's numbers are the list's -/
def Has (D : DataW Unit) (acc : List Int) : Prop := ∀ d, has D (.int .i64 d) = acc.contains d
theorem has_start : Has (.map []) [] := fun d => rfl
theorem lit_ne {x y : Int} (h : y ≠ x) : (Lit.int .i64 y) ≠ (Lit.int .i64 x) := fun e => by
  simp only [Lit.int.injEq, true_and] at e
  exact h e
theorem has_more {D : DataW Unit} {acc : List Int} (h : Has D acc) (hm : IsMap D) (x : Int) : Has (D.put (.int .i64 x) unitD) (acc ++ [x]) := fun d => by
  by_cases e : d = x
  · subst e
    rw [has_put_same hm keyL7]
    simp
  · rw [has_put_other (lit_ne e), h d]
    cases hc : acc.contains d with
    | true => rw [List.contains_eq_mem, decide_eq_true_eq] at hc; simp [hc]
    | false =>
      rw [List.contains_eq_mem, decide_eq_false_iff_not] at hc
      simp [hc, e]
theorem has_again {D : DataW Unit} {acc : List Int} (h : Has D acc) (hm : IsMap D) {x : Int} (hx : acc.contains x = true) : Has (D.put (.int .i64 x) unitD) acc := fun d => by
  by_cases e : d = x
  · subst e
    rw [has_put_same hm keyL7, hx]
  · rw [has_put_other (lit_ne e), h d]
end Go.Proofs.YtfoncmeplofedaqGreatDoor
