/- WHAT THE RUN DOES at the builtins over rows of structs, whatever their cells: append behind the room, append of zeros, copy, clear, parts. It speaks of no function of the program. -/
import Derived.Test.YtfoncmeplofedaqRowg
import Derived.Lib.AppendZeros
namespace Go.Proofs.Ytfoncmeplofedaq
open Go.RowKit
set_option linter.unusedVariables false
section
variable {α : Type} {f : α → List Value} {k : Nat}
/-- the type's facts with its zero -/
structure TyZ (P : Program) (t e : TypeId) (f : α → List Value) (k bytes : Nat) (z0 : α) (z : Value) : Prop where
  und : P.underlying t = some (.slice e)
  inf : (P.info? e).map (fun i => (i.zero, i.size, i.bytes)) = some (some z, k, bytes)
  small : bytes ≤ 4096
  zero : z.cells = (f z0).toArray
theorem TyZ.ty {P : Program} {t e : TypeId} {bytes : Nat} {z0 : α} {z : Value} (ht : TyZ P t e f k bytes z0 z) (hf : Wid f k) : TyG P t e k bytes :=
  ⟨ht.und, ⟨z, by rw [ht.zero, List.size_toArray, hf.len], ht.inf⟩, ht.small⟩
theorem rowC_replicate_get (hf : Wid f k) (z0 : α) (n i : Nat) (h : i < n * k) : (rowC f (List.replicate n z0))[i]? = (f z0)[i % k]? := by
  have hd := Nat.div_add_mod i k
  have hm := Nat.mod_lt i hf.pos
  have hi : i / k < n := Nat.div_lt_of_lt_mul (by rw [Nat.mul_comm]; exact h)
  have hg := rowC_get hf (List.replicate n z0) (i / k) (by rw [List.length_replicate]; exact hi) (i % k) hm
  rw [show i / k * k + i % k = i by rw [Nat.mul_comm]; exact hd, List.getElem_replicate] at hg
  exact hg
/-- a new row's cells are zeros -/
theorem zeros_G (hf : Wid f k) {z0 : α} {z : Value} (hz : z.cells = (f z0).toArray) (n : Nat) : (Builtin.zeroCells z.cells n).toList = rowC f (List.replicate n z0) := by
  have hs : z.cells.size = k := by rw [hz, List.size_toArray, hf.len]
  apply List.ext_getElem?
  intro i
  unfold Builtin.zeroCells
  rw [Array.getElem?_toList, Array.getElem?_map, hs]
  by_cases h : i < n * k
  · have hr : (Array.range (n * k))[i]? = some i := by rw [Array.getElem?_range, if_pos h]
    rw [hr, rowC_replicate_get hf z0 n i h, Option.map_some]
    have hm := Nat.mod_lt i hf.pos
    rw [getElem!_pos _ (i % k) (by rw [hs]; exact hm)]
    have e : z.cells[i % k]? = (f z0)[i % k]? := by rw [hz, List.getElem?_toArray]
    rw [← e, Array.getElem?_eq_getElem (by rw [hs]; exact hm)]
  · have hr : (Array.range (n * k))[i]? = none := by rw [Array.getElem?_range, if_neg h]
    rw [hr, Option.map_none, List.getElem?_eq_none (by rw [rowC_len hf, List.length_replicate]; omega)]
theorem made_G (hf : Wid f k) {z0 : α} {z : Value} (hz : z.cells = (f z0).toArray) (n : Nat) : (madeCells z.cells (n * k)).toList = rowC f (List.replicate n z0) := by
  have hs : z.cells.size = k := by rw [hz, List.size_toArray, hf.len]
  have e := zeros_G hf hz n
  rw [← e]
  unfold Builtin.zeroCells madeCells
  rw [hs]
  try rfl
/-- a row that fills its block -/
theorem heap_of_G {w : World} {B g n : Nat} {e : TypeId} {L : List α} (hf : Wid f k) (h : w.ownsRow B e k (.slice (some ⟨g, 0, none⟩) n n) n (rowC f L)) : w.heap[g]? = some (.cells (rowC f L).toArray e (0, 0)) ∧ B ≤ g := by
  rcases h.2 with ⟨h0, _⟩ | ⟨g', cap, cur, hv, hg, hh, hn, hm, hs, ht⟩
  · cases h0
  · simp only [Value.slice.injEq, Option.some.injEq, Addr.mk.injEq] at hv
    obtain ⟨⟨rfl, _, _⟩, _, rfl⟩ := hv
    have e : cur.toList = rowC f L := by rw [← ht, List.take_of_length_le (by rw [Array.length_toList]; omega)]
    exact ⟨by rw [hh, ← e], hg⟩
theorem owns_of_G {w : World} {B g n cap : Nat} {e : TypeId} {L : List α} (hf : Wid f k) (hg : B ≤ g) (hn : n ≤ cap) (hc : cap ≤ 16777216) (hL : L.length = cap) (h : w.heap[g]? = some (.cells (rowC f L).toArray e (0, 0))) : OwnG f k e w B (.slice (some ⟨g, 0, none⟩) n cap) (L.take n) := by
  have hl : (L.take n).length = n := by rw [List.length_take]; omega
  refine ⟨by rw [rowC_len hf], Or.inr ⟨g, cap, _, by rw [hl], hg, h, by rw [hl]; exact hn, by unfold maxLen; omega, by rw [List.size_toArray, rowC_len hf, hL], ?_⟩⟩
  rw [hl]
  exact rowC_take hf L n (by omega)
/-- 'list[m:]' of a row that can be read -/
theorem rd_fromR {P : Program} {t e : TypeId} {bytes : Nat} (ht : TyG P t e k bytes) {w : World} {v : Value} {xs : List α} (h : RdG f k w v xs) (m : Nat) (hm : m ≤ xs.length) (hx : xs.length ≤ 16777216) :
    ∃ u, (∀ W : World, (Instr.slice t v (some (.int .i64 (m : Int))) none none).run P W = .ok u W) ∧ RdG f k w u (xs.drop m) := by
  have hl : (xs.drop m).length = xs.length - m := List.length_drop
  obtain ⟨ao, cap, rfl, hcap, hx9⟩ := h
  refine ⟨sliced ao m xs.length cap k, fun W => ?_, ?_⟩
  · rw [run_slice_l W t _ xs.length cap (by rw [elem_G ht]; exact ht.und) .i64 _ (by omega) (by omega), elem_G ht, size_G ht]
    simp [Result.andThen]
  · unfold sliced
    by_cases h0 : cap = m
    · rw [if_pos h0]
      have h1 : xs.length = m := by omega
      refine ⟨ao, cap - m, by rw [hl], by omega, fun hne => absurd (List.eq_nil_of_length_eq_zero (by omega)) hne⟩
    · rw [if_neg h0]
      cases ao with
      | none => 
        refine ⟨none, cap - m, by rw [hl]; rfl, by omega, fun hne => ?_⟩
        obtain ⟨b, off, ha, _⟩ := hx9 (fun e0 => hne (by rw [e0]; simp))
        cases ha
      | some ad =>
        by_cases hn0 : xs = []
        · subst hn0
          refine ⟨_, cap - m, by rw [hl], by simp, fun hne => absurd (by simp) hne⟩
        · obtain ⟨b, off, ha, hlt, hc⟩ := hx9 hn0
          obtain rfl := Option.some.inj ha
          have h9 := rdG_drop (f := f) (k := k) (w := w) (b := b) (off := off) (n := xs.length) (cap := cap) (l := xs) ⟨_, cap, rfl, hcap, fun _ => ⟨b, off, rfl, hlt, hc⟩⟩ m (cap - m) hm (by omega)
          simp only [Option.map_some, Addr.add_lit]
          exact h9
/-- 'list[:m]' of a row that can be read -/
theorem rd_toR {P : Program} {t e : TypeId} {bytes : Nat} (ht : TyG P t e k bytes) {w : World} {v : Value} {xs : List α} (h : RdG f k w v xs) (m : Nat) (hm : m ≤ xs.length) (hx : xs.length ≤ 16777216) :
    ∃ u, (∀ W : World, (Instr.slice t v none (some (.int .i64 (m : Int))) none).run P W = .ok u W) ∧ RdG f k w u (xs.take m) := by
  have h0 := h
  obtain ⟨ao, cap, rfl, hcap, hx9⟩ := h
  have h1 := rdG_take h0 m hm
  refine ⟨.slice ao m cap, fun W => ?_, h1⟩
  rw [run_slice_h W t _ _ cap (by rw [elem_G ht]; exact ht.und) .i64 _ (by omega) (by omega), elem_G ht, size_G ht]
  by_cases hc0 : cap = 0
  · have : m = 0 := by omega
    subst this
    simp [Result.andThen, sliced, hc0]
  · cases ao with
    | none => simp [Result.andThen, sliced, hc0]
    | some ad => 
      obtain ⟨b, o, p⟩ := ad
      cases p with
      | none => simp [Result.andThen, sliced, hc0, Addr.add]
      | some _ => simp [Result.andThen, sliced, hc0, Addr.add]
/-- append of a row under two names of its type -/
theorem append_two {P : Program} {t t2 e : TypeId} {bytes : Nat} (ht : TyG P t e k bytes) (ht2 : TyG P t2 e k bytes) (w : World) (ty : TypeId) (ao bo : Option Addr) (n c m d : Nat) : (Builtin.append_ #[t, t2] ty #[.slice ao n c, .slice bo m d]).run P w = (Builtin.append_ #[t, t] ty #[.slice ao n c, .slice bo m d]).run P w := by
  obtain ⟨z, hz, hi⟩ := ht.inf
  obtain ⟨i0, hi0, hz0, hz1, hz2⟩ := info_parts hi
  simp [Builtin.append_, run_underlying ht.und, run_underlying ht2.und, sizeOf, typeInfo, hi0, hz1]
/-- 'append(s[:m], make(S, z)...)' that goes behind the room of a row that fills it -/
theorem append_zerosG {P : Program} {t e tn : TypeId} {bytes : Nat} {z0 : α} {z : Value} (ht : TyZ P t e f k bytes z0 z) (hf : Wid f k) (htn : P.underlying tn = some (.int .i64)) (w : World) (ty : TypeId) (g n m q : Nat) (l : List α) (hl : l.length = n) (hw : w.heap[g]? = some (.cells (rowC f l).toArray e (0, 0))) (hm : m ≤ n) (hq : m + q = n + 1) (hn : n ≤ 1048576) :
    ∃ C w' M, n + 1 ≤ C ∧ (Builtin.append_ #[t, tn] ty #[.slice (some ⟨g, 0, none⟩) m n, .int .i64 (q : Int)]).run P w = .ok (.slice (some ⟨w.heap.size, 0, none⟩) (n + 1) C) w' ∧ C ≤ maxLen ∧ M.length = C ∧ M.take m = l.take m ∧ w'.heap[w.heap.size]? = some (.cells (rowC f M).toArray e (0, 0)) ∧ Below w.heap.size w w' ∧ w'.heap.size = w.heap.size + 1 := by
  obtain ⟨i0, hi, hz0, hz1, hz2⟩ := info_parts ht.inf
  have hkp := hf.pos
  have hby := ht.small
  have hge := grownCap_ge w (n + 1) n e
  have hcm := grownCap_le_maxLen w (n + 1) n e (by unfold maxLen; omega)
  have hzs : z.cells.size = k := by rw [ht.zero, List.size_toArray, hf.len]
  have hcells : ∀ j u, (rowC f (l.take m))[j]? = some u → w.cell? ((⟨g, 0, none⟩ : Addr).add j) = some u := fun j u hu => by
    rw [Addr.add_lit, Nat.zero_add, cell_of_row w g j _ _ (0, 0) hw]
    rw [← rowC_take hf l m (by omega)] at hu
    have hj := (List.getElem?_eq_some_iff.1 hu).1
    rw [List.length_take] at hj
    rw [List.getElem?_take_of_lt (by omega)] at hu
    rw [List.getElem?_toArray]
    exact hu
  have hfc := run_firstCells_some (P := P) w.drew i0.size m ⟨g, 0, none⟩ m n (rowC f (l.take m)) (by rw [rowC_len hf, List.length_take, hz1]; rw [Nat.min_eq_left (by omega)]) hcells
  have hwz : IntKind.i64.wrap (q : Int) = (q : Int) := IntWalk.i64_in _ ⟨by omega, by omega⟩
  have hqpos : q ≠ 0 := by omega
  have h1 : ¬ ((q : Int) < 0) := by omega
  have hqb : (q : Int) * (bytes : Int) ≤ 1048577 * 4096 := by
    rw [← Int.natCast_mul]
    have := Nat.mul_le_mul (show q ≤ 1048577 by omega) hby
    omega
  have h2 : ¬ (281474976710656 < (q : Int) * (bytes : Int)) := by omega
  have h3 : ¬ (m + q ≤ n) := by omega
  have h4' : ¬ (9223372036854775807 < (m : Int) + (q : Int)) := by omega
  have h5 : ¬ (281474976710656 < Builtin.nextslicecap (m + q) n * bytes) := by
    have h9 := nextslicecap_le (need := m + q) (old := n) (by omega)
    have h8 := Nat.mul_le_mul (show Builtin.nextslicecap (m + q) n ≤ 4 * 1048577 + 1024 by omega) hby
    omega
  have h6 : ¬ (q * k = 0) := Nat.mul_ne_zero hqpos (by omega)
  refine ⟨grownCap w (n + 1) n e, w.drew.alloc (.cells ((rowC f (l.take m)).toArray ++ Builtin.zeroCells z.cells q ++ Builtin.zeroCells z.cells (grownCap w (n + 1) n e - (n + 1))) e), l.take m ++ List.replicate q z0 ++ List.replicate (grownCap w (n + 1) n e - (n + 1)) z0, hge, ?_, hcm, by simp only [List.length_append, List.length_take, List.length_replicate]; omega, ?_, ?_, (Below.refl _ w).drew.alloc (Nat.le_refl _) _, by rw [World.size_alloc]; rfl⟩
  · rw [← hq]
    rw [hz1] at hfc
    simp [Builtin.append_, run_underlying ht.und, run_underlying htn, sizeOf, typeInfo, zeroValue, hi, hz0, hz1, hz2, asInt, asIntOf, hwz, h1, h2, h3, h4', h5, h6, hfc, Question.forced, newRow, grownCap]
  · rw [List.append_assoc, List.take_append_of_le_length (by rw [List.length_take]; omega), List.take_of_length_le (by rw [List.length_take]; omega)]
  · have e9 := heap_alloc_new w.drew (.cells ((rowC f (l.take m)).toArray ++ Builtin.zeroCells z.cells q ++ Builtin.zeroCells z.cells (grownCap w (n + 1) n e - (n + 1))) e)
    refine e9.trans ?_
    have e2 : (rowC f (l.take m)).toArray ++ Builtin.zeroCells z.cells q ++ Builtin.zeroCells z.cells (grownCap w (n + 1) n e - (n + 1)) = (rowC f (l.take m ++ List.replicate q z0 ++ List.replicate (grownCap w (n + 1) n e - (n + 1)) z0)).toArray := by
      apply Array.toList_inj.1
      rw [Array.toList_append, Array.toList_append, zeros_G hf ht.zero, zeros_G hf ht.zero, rowC_append, rowC_append]
    rw [e2]
/-- 'copy' of structs into a row -/
theorem copy_G {P : Program} {t e : TypeId} {bytes : Nat} (ht : TyG P t e k bytes) (hf : Wid f k) (w : World) (sT ty : TypeId) (g m dLen dCap : Nat) (a : Addr) (sLen sCap : Nat) (M ys : List α) (hw : w.heap[g]? = some (.cells (rowC f M).toArray e (0, 0))) (hn : ys.length = Nat.min sLen dLen) (hsrc : ∀ j u, (rowC f ys)[j]? = some u → w.cell? (a.add j) = some u) (hfit : m + ys.length ≤ M.length) :
    (Builtin.copy_ #[t, sT] ty #[.slice (some ⟨g, m * k, none⟩) dLen dCap, .slice (some a) sLen sCap]).run P w =
      .ok (goInt ys.length) (w.setRow g (rowC f (M.take m ++ ys ++ M.drop (m + ys.length))).toArray) := by
  obtain ⟨z, hz, hi⟩ := ht.inf
  obtain ⟨i0, hi0, hz0, hz1, hz2⟩ := info_parts hi
  have hlen : (rowC f ys).length = ys.length * k := rowC_len hf ys
  have hle : m * k + ys.length * k ≤ M.length * k := by rw [← Nat.add_mul]; exact Nat.mul_le_mul_right k hfit
  have hl := run_loadCells_list (P := P) w a (rowC f ys) hsrc
  have hst := run_storeCells_at P g (m * k) e (rowC f ys) 0 _ w hw (by rw [List.size_toArray, hlen, rowC_len hf, Nat.add_zero]; omega) (rowC_one hf _)
  have e9 : List.take (m * k + 0) (rowC f M).toArray.toList ++ rowC f ys ++ List.drop (m * k + 0 + (rowC f ys).length) (rowC f M).toArray.toList = rowC f (M.take m ++ ys ++ M.drop (m + ys.length)) := by
    rw [rowC_append, rowC_append, List.toList_toArray, Nat.add_zero, rowC_take hf M m (by omega), hlen, ← Nat.add_mul, rowC_drop hf M (m + ys.length) hfit]
  rw [e9] at hst
  have hcl : (rowC f ys).length = Nat.min sLen dLen * k := by rw [hlen, hn]
  rw [hcl] at hl
  simp [Builtin.copy_, run_underlying ht.und, Builtin.lenOf, Builtin.firstCells, sizeOf, typeInfo, hi0, hz1, hl, hst, hn]
/-- 's[m:]', 's[:m]' of a row at its block's head -/
theorem slG_from {P : Program} {t e : TypeId} {bytes : Nat} (ht : TyG P t e k bytes) (W : World) (g n C m : Nat) (hm : m < C) (hmn : m ≤ n) (hn : n ≤ C) (hC : C ≤ maxLen) : (Instr.slice t (.slice (some ⟨g, 0, none⟩) n C) (some (.int .i64 (m : Int))) none none).run P W = .ok (.slice (some ⟨g, m * k, none⟩) (n - m) (C - m)) W := by
  rw [run_slice_l W t _ _ C (by rw [elem_G ht]; exact ht.und) .i64 _ (by omega) (by omega), elem_G ht, size_G ht]
  have e9 : sliced (some (⟨g, 0, none⟩ : Addr)) m n C k = .slice (some ⟨g, m * k, none⟩) (n - m) (C - m) := by
    unfold sliced
    rw [if_neg (by omega)]
    simp only [Option.map_some, Addr.add_lit, Nat.zero_add]
  rw [← e9]
  simp [Result.andThen]
theorem slG_to {P : Program} {t e : TypeId} {bytes : Nat} (ht : TyG P t e k bytes) (W : World) (g n m : Nat) (hm : m ≤ n) (hn : n ≤ 16777216) : (Instr.slice t (.slice (some ⟨g, 0, none⟩) n n) none (some (.int .i64 (m : Int))) none).run P W = .ok (.slice (some ⟨g, 0, none⟩) m n) W := by
  rw [run_slice_h W t _ _ n (by rw [elem_G ht]; exact ht.und) .i64 _ (by omega) (by omega), elem_G ht, size_G ht]
  by_cases hc0 : n = 0
  · simp [Result.andThen, sliced, hc0]
  · simp [Result.andThen, sliced, hc0, Addr.add]
/-- 's[:0]' of a new row -/
theorem slG_zero {P : Program} {t e : TypeId} {bytes : Nat} {z0 : α} {z : Value} (ht : TyZ P t e f k bytes z0 z) (W : World) (g n C : Nat) (hn : n ≤ C) (hC : C ≤ 9223372036854775807) : (Instr.slice t (.slice (some ⟨g, 0, none⟩) n C) none (some (.int .i64 0)) none).run P W = .ok (.slice (some ⟨g, 0, none⟩) 0 C) W := by
  obtain ⟨i0, hi, hz0, hz1, hz2⟩ := info_parts ht.inf
  have hel : P.elem t = e := by unfold Program.elem; rw [ht.und]
  have hsz : (sizeOf e).run P W = .ok k W := by simp [sizeOf, typeInfo, hi, hz1]
  have h9 := run_slice_h (P := P) W t (some ⟨g, 0, none⟩) n C (by rw [hel]; exact ht.und) .i64 0 (by omega) (by omega)
  rw [h9, hel, hsz]
  by_cases hc0 : C = 0
  · simp [Result.andThen, sliced, hc0]
  · simp [Result.andThen, sliced, hc0, Addr.add]
/-- 'clear(s[m:])' of a row that fills its block -/
theorem clear_G {P : Program} {t e : TypeId} {bytes : Nat} {z0 : α} {z : Value} (ht : TyZ P t e f k bytes z0 z) (hf : Wid f k) (w : World) (g n m : Nat) (L : List α) (hL : L.length = n) (hm : m ≤ n) (hn : n ≤ 1048576) (hw : w.heap[g]? = some (.cells (rowC f L).toArray e (0, 0))) :
    ∃ u, (∀ W, (Instr.slice t (.slice (some ⟨g, 0, none⟩) n n) (some (.int .i64 (m : Int))) none none).run P W = .ok u W) ∧ ∃ w' M, (∀ ty, (Builtin.clear_ #[t] ty #[u]).run P w = .ok (.tuple #[]) w') ∧ M.length = n ∧ M.take m = L.take m ∧ w'.heap[g]? = some (.cells (rowC f M).toArray e (0, 0)) ∧ w.grownBy w' (some g) := by
  obtain ⟨i0, hi, hz0, hz1, hz2⟩ := info_parts ht.inf
  have htg := ht.ty hf
  refine ⟨sliced (some ⟨g, 0, none⟩) m n n k, fun W => ?_, ?_⟩
  · rw [run_slice_l W t _ _ n (by rw [elem_G htg]; exact htg.und) .i64 _ (by omega) (by omega), elem_G htg, size_G htg]
    simp [Result.andThen]
  rcases Nat.lt_or_ge m n with h | h
  · have e9 : sliced (some (⟨g, 0, none⟩ : Addr)) m n n k = .slice (some ⟨g, m * k, none⟩) (n - m) (n - m) := by
      unfold sliced
      rw [if_neg (by omega)]
      simp only [Option.map_some, Addr.add_lit, Nat.zero_add]
    rw [e9]
    have hlr : (rowC f (List.replicate (n - m) z0)).length = (n - m) * k := by rw [rowC_len hf, List.length_replicate]
    have hmk : m * k + (n - m) * k = n * k := by rw [← Nat.add_mul]; congr 1; omega
    have hM : List.take (m * k + 0) (rowC f L).toArray.toList ++ rowC f (List.replicate (n - m) z0) ++ List.drop (m * k + 0 + (rowC f (List.replicate (n - m) z0)).length) (rowC f L).toArray.toList = rowC f (L.take m ++ List.replicate (n - m) z0) := by
      rw [rowC_append, List.toList_toArray, Nat.add_zero, rowC_take hf L m (by omega), List.drop_of_length_le (by rw [hlr, rowC_len hf, hL]; omega), List.append_nil]
    have hst := run_storeCells_at P g (m * k) e (rowC f (List.replicate (n - m) z0)) 0 _ w hw (by rw [List.size_toArray, hlr, rowC_len hf, hL, Nat.add_zero]; omega) (rowC_one hf _)
    rw [hM] at hst
    have hzc := zeros_G hf ht.zero (n - m)
    have hZ : (zeroValue e).run P w = .ok z w := by simp [zeroValue, typeInfo, hi, hz0]
    obtain ⟨m', hm'⟩ : ∃ m', n - m = m' + 1 := ⟨n - m - 1, by omega⟩
    refine ⟨w.setRow g (rowC f (L.take m ++ List.replicate (n - m) z0)).toArray, L.take m ++ List.replicate (n - m) z0, fun ty => ?_, by rw [List.length_append, List.length_take, List.length_replicate]; omega, by rw [List.take_append_of_le_length (by rw [List.length_take]; omega), List.take_of_length_le (by rw [List.length_take]; omega)], setRow_heap w g _ _ e _ hw, ?_⟩
    · rw [hm'] at hst hzc ⊢
      simp [Builtin.clear_, run_underlying ht.und, hZ, hzc, hst]
    · exact ⟨rfl, rfl, rfl, by simp [World.setRow], fun q hq hne => setRow_other _ _ _ _ (fun e => hne (by rw [e]))⟩
  · obtain rfl : m = n := by omega
    have e9 : sliced (some (⟨g, 0, none⟩ : Addr)) m m m k = .slice (some ⟨g, 0, none⟩) 0 0 := by
      unfold sliced
      rw [if_pos rfl, Nat.sub_self]
    rw [e9]
    exact ⟨w, L, fun ty => by simp [Builtin.clear_, run_underlying ht.und], hL, rfl, hw, World.grownBy.refl _ _⟩
end
end Go.Proofs.Ytfoncmeplofedaq
