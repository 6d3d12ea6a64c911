/- ROWS OF STRUCTS, whatever their cells: f tells an element's cells, k how many. What is owned, what can be read, parts, appends. It speaks of no function of the program. -/
import Derived.Test.YtfoncmeplofedaqBasis
import Derived.Lib.Hide
import Derived.Maps.AppendAt
import Derived.Deep.Upon
namespace Go.Proofs.Ytfoncmeplofedaq
open Go.RowKit
set_option linter.unusedVariables false
/-- each element has so many cells, each of them one cell -/
structure Wid {α : Type} (f : α → List Value) (k : Nat) : Prop where
  pos : 0 < k
  len : ∀ x, (f x).length = k
  one : ∀ x, ∀ u ∈ f x, u.oneCell' = true
def rowC {α : Type} (f : α → List Value) (l : List α) : List Value := l.flatMap f
section
variable {α : Type} {f : α → List Value} {k : Nat}
theorem rowC_nil : rowC f [] = [] := rfl
theorem rowC_cons (p : α) (l : List α) : rowC f (p :: l) = f p ++ rowC f l := rfl
theorem rowC_append (l m : List α) : rowC f (l ++ m) = rowC f l ++ rowC f m := by unfold rowC; rw [List.flatMap_append]
theorem rowC_len (hf : Wid f k) (l : List α) : (rowC f l).length = l.length * k := by
  induction l with
  | nil => simp [rowC]
  | cons p t ih => rw [rowC_cons, List.length_append, hf.len, ih, List.length_cons, Nat.succ_mul]; omega
theorem rowC_one (hf : Wid f k) (l : List α) : ∀ u ∈ rowC f l, u.oneCell' = true := by
  intro u hu
  obtain ⟨p, _, h⟩ := List.mem_flatMap.1 hu
  exact hf.one p u h
theorem rowC_get (hf : Wid f k) : ∀ (l : List α) (i : Nat) (h : i < l.length) (j : Nat), j < k → (rowC f l)[i * k + j]? = (f l[i])[j]?
  | p :: t, 0, _, j, hj => by
    rw [rowC_cons, Nat.zero_mul, Nat.zero_add, List.getElem?_append_left (by rw [hf.len]; exact hj)]
    rfl
  | p :: t, i + 1, h, j, hj => by
    have e := rowC_get hf t i (by simpa using h) j hj
    rw [rowC_cons, List.getElem?_append_right (by rw [hf.len, Nat.succ_mul]; omega), hf.len, show (i + 1) * k + j - k = i * k + j by rw [Nat.succ_mul]; omega, e]
    rfl
theorem rowC_set (hf : Wid f k) : ∀ (l : List α) (i : Nat) (h : i < l.length) (j : Nat) (u : Value) (y : α), j < k → f y = (f l[i]).set j u → (rowC f l).set (i * k + j) u = rowC f (l.set i y)
  | p :: t, 0, _, j, u, y, hj, hy => by
    rw [List.set_cons_zero, rowC_cons, rowC_cons, hy, Nat.zero_mul, Nat.zero_add, List.set_append_left _ _ (by rw [hf.len]; exact hj)]
    rfl
  | p :: t, i + 1, h, j, u, y, hj, hy => by
    have e := rowC_set hf t i (by simpa using h) j u y hj hy
    rw [List.set_cons_succ, rowC_cons, rowC_cons, List.set_append_right _ _ (by rw [hf.len, Nat.succ_mul]; omega), hf.len, show (i + 1) * k + j - k = i * k + j by rw [Nat.succ_mul]; omega, e]
theorem rowC_take (hf : Wid f k) (l : List α) (m : Nat) (hm : m ≤ l.length) : (rowC f l).take (m * k) = rowC f (l.take m) := by
  have e : rowC f l = rowC f (l.take m) ++ rowC f (l.drop m) := by rw [← rowC_append, List.take_append_drop]
  have hle : (rowC f (l.take m)).length = m * k := by rw [rowC_len hf, List.length_take, Nat.min_eq_left hm]
  rw [e, ← hle, List.take_left]
theorem rowC_drop (hf : Wid f k) (l : List α) (m : Nat) (hm : m ≤ l.length) : (rowC f l).drop (m * k) = rowC f (l.drop m) := by
  have e : rowC f l = rowC f (l.take m) ++ rowC f (l.drop m) := by rw [← rowC_append, List.take_append_drop]
  have hle : (rowC f (l.take m)).length = m * k := by rw [rowC_len hf, List.length_take, Nat.min_eq_left hm]
  rw [e, ← hle, List.drop_left]
/-- the elements' cells lie at b, off -/
def CellsG (f : α → List Value) (k b off : Nat) (l : List α) (w : World) : Prop := ∀ (i : Nat) (h : i < l.length) (j : Nat) (u : Value), (f l[i])[j]? = some u → w.cell? ⟨b, off + i * k + j, none⟩ = some u
theorem cellsG_below {b off : Nat} {l : List α} {w w' : World} (h : CellsG f k b off l w) (hlt : b < w.heap.size) (hb : Below w.heap.size w w') : CellsG f k b off l w' :=
  fun i hi j u hu => (hb.cell (p := ⟨b, off + i * k + j, none⟩) hlt).trans (h i hi j u hu)
theorem cellsG_at (hf : Wid f k) {b off : Nat} {l : List α} {w : World} (h : CellsG f k b off l w) : ∀ j u, (rowC f l)[j]? = some u → w.cell? (Addr.add ⟨b, off, none⟩ j) = some u := by
  intro j u hu
  have hj := (List.getElem?_eq_some_iff.1 hu).1
  rw [rowC_len hf] at hj
  have hd := Nat.div_add_mod j k
  have hm := Nat.mod_lt j hf.pos
  have hi : j / k < l.length := Nat.div_lt_of_lt_mul (by rw [Nat.mul_comm]; exact hj)
  have e : j / k * k + j % k = j := by rw [Nat.mul_comm]; exact hd
  have hg := rowC_get hf l (j / k) hi (j % k) hm
  rw [e, hu] at hg
  have h9 := h (j / k) hi (j % k) u hg.symm
  rw [Nat.add_assoc, e] at h9
  rw [Addr.add_lit]
  exact h9
/-- a slice of structs that can be read -/
def RdG (f : α → List Value) (k : Nat) (w : World) (v : Value) (l : List α) : Prop :=
  ∃ ao cap, v = .slice ao l.length cap ∧ l.length ≤ cap ∧ (l ≠ [] → ∃ b off, ao = some ⟨b, off, none⟩ ∧ b < w.heap.size ∧ CellsG f k b off l w)
abbrev OwnG (f : α → List Value) (k : Nat) (e : TypeId) (w : World) (B : Nat) (v : Value) (l : List α) : Prop := w.ownsRow B e k v l.length (rowC f l)
theorem rdG_below {w w' : World} {v : Value} {l : List α} (h : RdG f k w v l) (hb : Below w.heap.size w w') : RdG f k w' v l := by
  obtain ⟨ao, cap, hv, hcap, hx⟩ := h
  refine ⟨ao, cap, hv, hcap, fun hne => ?_⟩
  obtain ⟨b, off, ha, hlt, hc⟩ := hx hne
  exact ⟨b, off, ha, Nat.lt_of_lt_of_le hlt hb.size, cellsG_below hc hlt hb⟩
theorem cellsG_own (hf : Wid f k) {w : World} {B : Nat} {e : TypeId} {g cap : Nat} {l : List α} (h : w.ownsRow B e k (.slice (some ⟨g, 0, none⟩) l.length cap) l.length (rowC f l)) : CellsG f k g 0 l w := by
  intro i hi j u hu
  have hj : j < k := by have h9 := (List.getElem?_eq_some_iff.1 hu).1; rwa [hf.len] at h9
  have hg := rowC_get hf l i hi j hj
  rw [Nat.zero_add, ← hu, ← hg]
  have hlt : i * k + j < l.length * k := by
    have : (i + 1) * k ≤ l.length * k := Nat.mul_le_mul_right k hi
    rw [Nat.succ_mul] at this
    omega
  exact h.cellAt (i * k + j) hlt
theorem rdG_owns (hf : Wid f k) {w : World} {B : Nat} {e : TypeId} {v : Value} {l : List α} (h : OwnG f k e w B v l) : RdG f k w v l := by
  have hw0 := h
  rcases h.2 with ⟨rfl, h0⟩ | ⟨g, cap, cur, rfl, hg, hh, hn, hm, hs, ht⟩
  · obtain rfl : l = [] := List.eq_nil_of_length_eq_zero h0
    exact ⟨none, 0, rfl, Nat.le_refl _, fun h => absurd rfl h⟩
  · exact ⟨_, cap, rfl, hn, fun _ => ⟨g, 0, rfl, (Array.getElem?_eq_some_iff.1 hh).1, cellsG_own hf hw0⟩⟩
/-- the walk's view of it -/
theorem rdG_cases {w : World} {v : Value} {l : List α} (h : RdG f k w v l) :
    (l = [] ∧ ∃ ao cap, v = .slice ao 0 cap) ∨ (0 < l.length ∧ ∃ b off cap, v = .slice (some ⟨b, off, none⟩) l.length cap ∧ l.length ≤ cap ∧ b < w.heap.size ∧ CellsG f k b off l w) := by
  obtain ⟨ao, cap, hv, hcap, hx⟩ := h
  by_cases h0 : l = []
  · subst h0
    exact Or.inl ⟨rfl, ao, cap, hv⟩
  · obtain ⟨b, off, rfl, h2, h3⟩ := hx h0
    exact Or.inr ⟨List.length_pos_iff.2 h0, b, off, cap, hv, hcap, h2, h3⟩
theorem rdG_shape {w : World} {v : Value} {l : List α} (h : RdG f k w v l) : ∃ ao cap, v = .slice ao l.length cap := by
  obtain ⟨ao, cap, hv, _⟩ := h
  exact ⟨ao, cap, hv⟩
theorem ownG_shape {w : World} {B : Nat} {e : TypeId} {v : Value} {l : List α} (h : OwnG f k e w B v l) : ∃ ao cap, v = .slice ao l.length cap := by
  rcases h.2 with ⟨rfl, h0⟩ | ⟨g, cap, cur, rfl, _⟩
  · exact ⟨none, 0, by rw [h0]⟩
  · exact ⟨_, cap, rfl⟩
/-- an owned row at its block -/
theorem ownG_cases (hf : Wid f k) {w : World} {B : Nat} {e : TypeId} {v : Value} {l : List α} (h : OwnG f k e w B v l) :
    (l = [] ∧ v = .slice none 0 0) ∨ ∃ g cap cur, v = .slice (some ⟨g, 0, none⟩) l.length cap ∧ B ≤ g ∧ g < w.heap.size ∧ l.length ≤ cap ∧ cap ≤ maxLen ∧ w.heap[g]? = some (.cells cur e (0, 0)) ∧ cur.size = cap * k ∧ cur.toList.take (l.length * k) = rowC f l ∧ CellsG f k g 0 l w := by
  have h0 := h
  rcases h.2 with ⟨h1, h2⟩ | ⟨g, cap, cur, rfl, hg, hh, hn, hm, hs, ht⟩
  · exact Or.inl ⟨List.eq_nil_of_length_eq_zero h2, h1⟩
  · exact Or.inr ⟨g, cap, cur, rfl, hg, (Array.getElem?_eq_some_iff.1 hh).1, hn, hm, hh, hs, ht, cellsG_own hf h0⟩
theorem ownG_nil (w : World) (B : Nat) (e : TypeId) : OwnG f k e w B (.slice none 0 0) [] := ⟨by simp [rowC], Or.inl ⟨rfl, rfl⟩⟩
/-- one element, as append's argument -/
theorem rdG_one (hf : Wid f k) (w : World) (x : α) (e : TypeId) : RdG f k (w.alloc (.cells (f x).toArray e)) (.slice (some ⟨w.heap.size, 0, none⟩) 1 1) [x] := by
  refine ⟨_, 1, rfl, Nat.le_refl _, fun _ => ⟨_, 0, rfl, by rw [World.size_alloc]; omega, fun i hi j u hu => ?_⟩⟩
  obtain rfl : i = 0 := by simpa using hi
  rw [Nat.zero_mul, Nat.zero_add, cell_of_row _ w.heap.size j _ _ (0, 0) (heap_alloc_new w (.cells (f x).toArray e)), List.getElem?_toArray]
  exact hu
/-- the head of a row -/
theorem rdG_take {w : World} {ao : Option Addr} {n cap : Nat} {l : List α} (h : RdG f k w (.slice ao n cap) l) (m : Nat) (hm : m ≤ l.length) : RdG f k w (.slice ao m cap) (l.take m) := by
  obtain ⟨ao', cap', hv, hcap, hx⟩ := h
  simp only [Value.slice.injEq] at hv
  obtain ⟨rfl, rfl, rfl⟩ := hv
  have hl : (l.take m).length = m := by rw [List.length_take]; omega
  refine ⟨ao, cap, by rw [hl], by omega, fun hne => ?_⟩
  obtain ⟨b, off, ha, hlt, hc⟩ := hx (fun h0 => hne (by rw [h0]; simp))
  refine ⟨b, off, ha, hlt, fun i hi j u hu => ?_⟩
  rw [hl] at hi
  rw [List.getElem_take] at hu
  exact hc i (by omega) j u hu
/-- the tail of a row -/
theorem rdG_drop {w : World} {b off n cap : Nat} {l : List α} (h : RdG f k w (.slice (some ⟨b, off, none⟩) n cap) l) (m c' : Nat) (hm : m ≤ l.length) (hc' : l.length - m ≤ c') : RdG f k w (.slice (some ⟨b, off + m * k, none⟩) (n - m) c') (l.drop m) := by
  obtain ⟨ao', cap', hv, hcap, hx⟩ := h
  simp only [Value.slice.injEq] at hv
  obtain ⟨rfl, rfl, rfl⟩ := hv
  have hl : (l.drop m).length = l.length - m := List.length_drop
  refine ⟨_, c', by rw [hl], by omega, fun hne => ?_⟩
  obtain ⟨b', off', ha, hlt, hc⟩ := hx (fun h0 => hne (by rw [h0]; simp))
  simp only [Option.some.injEq, Addr.mk.injEq, and_true] at ha
  obtain ⟨rfl, rfl⟩ := ha
  refine ⟨b, off + m * k, rfl, hlt, fun i hi j u hu => ?_⟩
  rw [hl] at hi
  rw [List.getElem_drop] at hu
  have h9 := hc (m + i) (by omega) j u hu
  rw [show off + (m + i) * k + j = off + m * k + i * k + j by rw [Nat.add_mul]; omega] at h9
  exact h9
/-- what append of a row of structs is about: the type's facts -/
structure TyG (P : Program) (t e : TypeId) (k bytes : Nat) : Prop where
  und : P.underlying t = some (.slice e)
  inf : ∃ z, z.cells.size = k ∧ (P.info? e).map (fun i => (i.zero, i.size, i.bytes)) = some (some z, k, bytes)
  small : bytes ≤ 4096
theorem append_G {P : Program} {t e : TypeId} {bytes : Nat} (ht : TyG P t e k bytes) (hf : Wid f k) (w : World) (ty : TypeId) (B : Nat) (v u : Value) (xs ys : List α) (h : OwnG f k e w B v xs) (hu : RdG f k w u ys) (hl : xs.length + ys.length ≤ 16777216) (hB : B ≤ w.heap.size) :
    ∃ v' w', (Builtin.append_ #[t, t] ty #[v, u]).run P w = .ok v' w' ∧ OwnG f k e w' B v' (xs ++ ys) ∧ w.grownBy w' v.ownBlock ∧ ∀ q, v'.ownBlock = some q → v.ownBlock = some q ∨ w.heap.size ≤ q := by
  obtain ⟨z, hz, hi⟩ := ht.inf
  obtain ⟨i0, hi0, hz0, hz1, hz2⟩ := info_parts hi
  have go : ∀ (ad : Addr) (c : Nat), u = .slice (some ad) ys.length c → (∀ j x, (rowC f ys)[j]? = some x → w.cell? (ad.add j) = some x) → ∃ v' w', (Builtin.append_ #[t, t] ty #[v, u]).run P w = .ok v' w' ∧ OwnG f k e w' B v' (xs ++ ys) ∧ w.grownBy w' v.ownBlock ∧ ∀ q, v'.ownBlock = some q → v.ownBlock = some q ∨ w.heap.size ≤ q := fun ad c hv hc => by
    have hby : (xs.length + ys.length) * bytes ≤ 140737488355328 := Nat.le_trans (Nat.mul_le_mul hl ht.small) (by omega)
    obtain ⟨v', w', h1, h2, h3, _, h4⟩ := run_append_own_at (P := P) w B t ty e i0 z k bytes ht.und hi0 hz0 hz1 hz2 hz hf.pos v xs.length (rowC f xs) h ad ys.length c (rowC f ys) (rowC_len hf ys) hc (rowC_one hf ys) (by unfold maxLen; omega) hby hB
    subst hv
    rw [← rowC_append, ← List.length_append] at h2
    refine ⟨v', w', h1, h2, h3, fun q hq => ?_⟩
    rcases h4 with h4 | h4
    · exact Or.inl (h4 ▸ hq)
    · rw [hq] at h4
      exact Or.inr (by rw [Option.some.inj h4]; exact Nat.le_refl _)
  rcases rdG_cases hu with ⟨h0, ao, cap, rfl⟩ | ⟨hp, b, off, cap, rfl, _, hlt, hc⟩
  · subst h0
    cases ao with
    | some ad => exact go ad cap rfl (fun j x hx => by cases hx)
    | none =>
      rw [List.append_nil]
      have hs : Src P i0.size t (.slice none 0 cap) 0 [] w := Src.ofNil w ht.und cap
      have h9 := h
      rcases h.2 with ⟨rfl, h0⟩ | ⟨g, c, cur, rfl, hg, hh, hn, hm, hs2, htk⟩
      · exact ⟨_, w, run_append_nothing w t t ty e i0 ht.und hi0 none 0 0 (Nat.le_refl _) _ hs, h9, World.grownBy.refl _ _, fun q hq => Or.inl hq⟩
      · exact ⟨_, w, run_append_nothing w t t ty e i0 ht.und hi0 _ _ _ hn _ hs, h9, World.grownBy.refl _ _, fun q hq => Or.inl hq⟩
  · exact go ⟨b, off, none⟩ cap rfl (cellsG_at hf hc)
theorem own_stepG {P : Program} {t e : TypeId} {bytes : Nat} (ht : TyG P t e k bytes) (hf : Wid f k) {ops : Array Oper} {rest : List Oper} {o : Oper} {a : Act} {w : World} {Q : Exit → Act → World → Prop} (hgd : o.guard = none) (s x : Operand)
    (ho : o.op = .call { callee := .builtin .append, args := #[s, x], argTypes := #[t, t] })
    (B : Nat) (v u : Value) (xs ys : List α) (hs : a.eval s = v) (hx : a.eval x = u) (h : OwnG f k e w B v xs) (hu : RdG f k w u ys) (hl : xs.length + ys.length ≤ 16777216) (hB : B ≤ w.heap.size)
    (hK : ∀ v' w', OwnG f k e w' B v' (xs ++ ys) → w.grownBy w' v.ownBlock → (∀ q, v'.ownBlock = some q → v.ownBlock = some q ∨ w.heap.size ≤ q) → wpList P ops Q rest (a.put o.dst v') w') : wpList P ops Q (o :: rest) a w := by
  refine wpList_plain hgd fun K hK' => ?_
  obtain ⟨v', w', hrun, r1, r2, r3⟩ := append_G ht hf w o.type B v u xs ys h hu hl hB
  unfold Oper.wp
  simp [execOp, ho, resolve, invoke, builtin, hs, hx, hrun, Result.andThen]
  exact hK' _ _ (hK v' w' r1 r2 r3)
/-- in a drawn region -/
theorem step_ownG {P : Program} {t e : TypeId} {bytes : Nat} (ht : TyG P t e k bytes) (hf : Wid f k) {ops : Array Oper} {o : Oper} {a : Act} {w : World} {K : Act → World → Prop} {Q : Exit → Act → World → Prop} {E : Prop} (hgd : o.guard = none) (s x : Operand)
    (ho : o.op = .call { callee := .builtin .append, args := #[s, x], argTypes := #[t, t] })
    (B : Nat) (v u : Value) (xs ys : List α) (hs : a.eval s = v) (hx : a.eval x = u) (h : OwnG f k e w B v xs) (hu : RdG f k w u ys) (hl : xs.length + ys.length ≤ 16777216) (hB : B ≤ w.heap.size)
    (hK : ∀ v' w', OwnG f k e w' B v' (xs ++ ys) → w.grownBy w' v.ownBlock → (∀ q, v'.ownBlock = some q → v.ownBlock = some q ∨ w.heap.size ≤ q) → K (a.put o.dst v') w') :
    if Region.wanted o (yielded ops a.tmps) = true then Oper.wp P o a w K Q else E := by
  have hw : Region.wanted o (yielded ops a.tmps) = true := by simp [Region.wanted, hgd]
  rw [if_pos hw]
  obtain ⟨v', w', hrun, r1, r2, r3⟩ := append_G ht hf w o.type B v u xs ys h hu hl hB
  unfold Oper.wp
  simp [execOp, ho, resolve, invoke, builtin, hs, hx, hrun, Result.andThen]
  exact hK v' w' r1 r2 r3
theorem elem_G {P : Program} {t e : TypeId} {bytes : Nat} (ht : TyG P t e k bytes) : P.elem t = e := by
  unfold Program.elem
  rw [ht.und]
theorem size_G {P : Program} {t e : TypeId} {bytes : Nat} (ht : TyG P t e k bytes) (W : World) : (sizeOf e).run P W = .ok k W := by
  obtain ⟨z, hz, hi⟩ := ht.inf
  obtain ⟨i0, hi0, hz0, hz1, hz2⟩ := info_parts hi
  simp [sizeOf, typeInfo, hi0, hz1]
/-- 'list[:m]' of a row that is owned -/
theorem own_takeG {P : Program} {t e : TypeId} {bytes : Nat} (ht : TyG P t e k bytes) (hf : Wid f k) {w : World} {B : Nat} {v : Value} {xs : List α} (h : OwnG f k e w B v xs) (m : Nat) (hm : m ≤ xs.length) :
    ∃ u, (∀ W : World, (Instr.slice t v none (some (.int .i64 (m : Int))) none).run P W = .ok u W) ∧ OwnG f k e w B u (xs.take m) ∧ u.ownBlock = v.ownBlock := by
  have hl : (xs.take m).length = m := by rw [List.length_take]; omega
  rcases ownG_cases hf h with ⟨rfl, rfl⟩ | ⟨g, cap, cur, rfl, hB, hg, hc, hcm, hh, hs, htk, _⟩
  · have h0 : m = 0 := by simpa using hm
    subst h0
    refine ⟨.slice none 0 0, fun W => ?_, ownG_nil w B e, rfl⟩
    rw [run_slice_h W t _ _ 0 (by rw [elem_G ht]; exact ht.und) .i64 _ (by omega) (by omega), elem_G ht, size_G ht]
    simp [Result.andThen, sliced]
  · refine ⟨.slice (some ⟨g, 0, none⟩) m cap, fun W => ?_, ⟨by rw [rowC_len hf], Or.inr ⟨g, cap, cur, by rw [hl], hB, hh, by rw [hl]; omega, hcm, hs, ?_⟩⟩, rfl⟩
    · rw [run_slice_h W t _ _ cap (by rw [elem_G ht]; exact ht.und) .i64 _ (by omega) (by omega), elem_G ht, size_G ht]
      by_cases h0 : cap = 0
      · have h1 : m = 0 := by omega
        subst h1
        simp [Result.andThen, sliced, h0]
      · simp [Result.andThen, sliced, h0, Addr.add]
    · rw [hl, ← rowC_take hf xs m hm, ← htk, List.take_take, Nat.min_eq_left (Nat.mul_le_mul_right k hm)]
/-- 'list[m:]' of a row that is owned -/
theorem rd_fromG {P : Program} {t e : TypeId} {bytes : Nat} (ht : TyG P t e k bytes) (hf : Wid f k) {w : World} {B : Nat} {v : Value} {xs : List α} (h : OwnG f k e w B v xs) (m : Nat) (hm : m ≤ xs.length) :
    ∃ u, (∀ W : World, (Instr.slice t v (some (.int .i64 (m : Int))) none none).run P W = .ok u W) ∧ RdG f k w u (xs.drop m) := by
  have hl : (xs.drop m).length = xs.length - m := List.length_drop
  rcases ownG_cases hf h with ⟨rfl, rfl⟩ | ⟨g, cap, cur, rfl, hB, hg, hc, hcm, hh, hs, htk, hcs⟩
  · have h0 : m = 0 := by simpa using hm
    subst h0
    refine ⟨.slice none 0 0, fun W => ?_, ⟨none, 0, rfl, Nat.le_refl _, fun h => absurd rfl h⟩⟩
    rw [run_slice_l W t _ 0 0 (by rw [elem_G ht]; exact ht.und) .i64 _ (by omega) (by omega), elem_G ht, size_G ht]
    simp [Result.andThen, sliced]
  · by_cases h0 : cap = m
    · refine ⟨.slice (some ⟨g, 0, none⟩) (xs.length - m) (cap - m), fun W => ?_, ⟨_, cap - m, by rw [hl], by rw [hl]; omega, fun hne => ?_⟩⟩
      · rw [run_slice_l W t _ xs.length cap (by rw [elem_G ht]; exact ht.und) .i64 _ (by omega) (by omega), elem_G ht, size_G ht]
        simp [Result.andThen, sliced, h0]
      · exact absurd (List.eq_nil_of_length_eq_zero (by omega)) hne
    · refine ⟨.slice (some ⟨g, m * k, none⟩) (xs.length - m) (cap - m), fun W => ?_, ?_⟩
      · rw [run_slice_l W t _ xs.length cap (by rw [elem_G ht]; exact ht.und) .i64 _ (by omega) (by omega), elem_G ht, size_G ht]
        simp [Result.andThen, sliced, h0, Addr.add]
        try omega
      · have h9 := rdG_drop (rdG_owns hf h) m (cap - m) hm (by omega)
        rwa [Nat.zero_add] at h9
end
end Go.Proofs.Ytfoncmeplofedaq
