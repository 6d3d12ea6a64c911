/- A row of numbers that may begin behind its block's head ('todo = todo[1:]'), and append onto it: the answer lies in the same block or in a new one. It speaks of no function of the program. -/
import Derived.Test.YtfoncmeplofedafBun
import Derived.Laws.AppendOwnNone
import Derived.ArgAppend
namespace Go.Proofs.Ytfoncmeplofedaf
open Go.RowKit
set_option linter.unusedVariables false
def QueAt (w : World) (v : Value) (xs : List Int) : Prop :=
  (v = .slice none 0 0 ∧ xs = []) ∨ ∃ g off cap cur, v = .slice (some ⟨g, off, none⟩) xs.length cap ∧ w.heap[g]? = some (.cells cur 2 (0, 0)) ∧ xs.length ≤ cap ∧ cap ≤ maxLen ∧ off + cap ≤ cur.size ∧ (cur.toList.drop off).take xs.length = cellsInt64S xs
theorem que_owns {w : World} {B : Nat} {v : Value} {xs : List Int} (h : w.ownsRow B 2 1 v xs.length (cellsInt64S xs)) : QueAt w v xs := by
  rcases h.2 with ⟨h1, h2⟩ | ⟨g, cap, cur, h1, _, h3, h4, h5, h6, h7⟩
  · exact Or.inl ⟨h1, List.eq_nil_of_length_eq_zero h2⟩
  · exact Or.inr ⟨g, 0, cap, cur, h1, h3, h4, h5, by omega, by simpa using h7⟩
theorem que_lt {w : World} {v : Value} {xs : List Int} (h : QueAt w v xs) : ∀ k, v.ownBlock = some k → k < w.heap.size := fun k hk => by
  rcases h with ⟨rfl, _⟩ | ⟨g, off, cap, cur, rfl, hg, _⟩
  · cases hk
  · obtain rfl : g = k := Option.some.inj hk
    exact (Array.getElem?_eq_some_iff.1 hg).1
theorem que_shape {w : World} {v : Value} {xs : List Int} (h : QueAt w v xs) : ∃ ao cap, v = .slice ao xs.length cap := by
  rcases h with ⟨rfl, rfl⟩ | ⟨g, off, cap, cur, rfl, _⟩
  · exact ⟨none, 0, rfl⟩
  · exact ⟨_, cap, rfl⟩
theorem que_kept {w w' : World} {row : Option Nat} {v : Value} {xs : List Int} (h : QueAt w v xs) (hg : w.grownBy w' row) (hne : ∀ k, row = some k → v.ownBlock ≠ some k) : QueAt w' v xs := by
  rcases h with h | ⟨g, off, cap, cur, rfl, hgg, rest⟩
  · exact Or.inl h
  · exact Or.inr ⟨g, off, cap, cur, rfl, (hg.block g (Array.getElem?_eq_some_iff.1 hgg).1 (fun e => hne g e.symm rfl)).trans hgg, rest⟩
theorem que_below {w w' : World} {v : Value} {xs : List Int} (h : QueAt w v xs) (hb : Below w.heap.size w w') : QueAt w' v xs := que_kept h (grown_of_below hb) (fun k hk => by cases hk)
theorem que_cell {w : World} {g off : Nat} {xs : List Int} {cur : Array Value} (hg : w.heap[g]? = some (.cells cur 2 (0, 0))) (ht : (cur.toList.drop off).take xs.length = cellsInt64S xs) {j : Nat} (hj : j < xs.length) : w.cell? ⟨g, off + j, none⟩ = some (.int .i64 (xs.getD j 0)) := by
  rw [cell_of_row w g (off + j) cur _ (0, 0) hg]
  have h1 := ints_get .i64 xs j hj
  have h2 : (cellsInt64S xs)[j]? = some (.int .i64 (xs.getD j 0)) := h1
  rw [← ht, List.getElem?_take_of_lt hj, List.getElem?_drop, Array.getElem?_toList] at h2
  exact h2
theorem que_rd {w : World} {v : Value} {xs : List Int} (h : QueAt w v xs) : Rd w v (cellsInt64S xs) := by
  have hla : (cellsInt64S xs).length = xs.length := by simp
  rcases h with ⟨rfl, rfl⟩ | ⟨g, off, cap, cur, rfl, hg, hc, hm, hs, ht⟩
  · exact ⟨none, 0, rfl, Nat.le_refl _, fun h => absurd rfl h⟩
  · refine ⟨_, cap, by rw [hla], by rw [hla]; exact hc, fun _ => ⟨g, off, rfl, (Array.getElem?_eq_some_iff.1 hg).1, fun j hj => ?_⟩⟩
    rw [hla] at hj
    exact (que_cell hg ht hj).trans (ints_get .i64 xs j hj).symm
theorem elemI8 : Try.prog.elem 34 = 2 := by kernel_rfl
theorem sizeI8 (W : World) : (sizeOf 2).run Try.prog W = .ok 1 W := by
  obtain ⟨i0, hi, hz0, hz1, hz2⟩ := info_parts Try.info64
  simp [sizeOf, typeInfo, hi, hz1]
/-- 'todo[1:]' -/
theorem que_tail {w : World} {v : Value} {x : Int} {xs : List Int} (h : QueAt w v (x :: xs)) : ∃ u, (∀ W : World, (Instr.slice 34 v (some (.int .i64 1)) none none).run Try.prog W = .ok u W) ∧ QueAt w u xs ∧ u.ownBlock = v.ownBlock := by
  rcases h with ⟨_, h0⟩ | ⟨g, off, cap, cur, rfl, hg, hc, hm, hs, ht⟩
  · cases h0
  have hxl : (x :: xs).length = xs.length + 1 := rfl
  rw [hxl] at hc ht
  have ht2 : (cur.toList.drop (off + 1)).take xs.length = cellsInt64S xs := by
    have h1 := congrArg (List.drop 1) ht
    rw [List.drop_take, List.drop_drop] at h1
    simpa using h1
  by_cases h1 : cap = 1
  · refine ⟨.slice (some ⟨g, off, none⟩) xs.length (cap - 1), fun W => ?_, Or.inr ⟨g, off, cap - 1, cur, rfl, hg, by omega, by omega, by omega, ?_⟩, rfl⟩
    · rw [hxl, run_slice_l W 34 _ (xs.length + 1) cap (by rw [elemI8]; exact Try.underlying34) .i64 _ (by omega) (by omega), elemI8, sizeI8]
      simp [Result.andThen, sliced, h1]
    · have h0 : xs = [] := List.eq_nil_of_length_eq_zero (by omega)
      subst h0
      rfl
  · refine ⟨.slice (some ⟨g, off + 1, none⟩) xs.length (cap - 1), fun W => ?_, Or.inr ⟨g, off + 1, cap - 1, cur, rfl, hg, by omega, by omega, by omega, ht2⟩, rfl⟩
    rw [hxl, run_slice_l W 34 _ (xs.length + 1) cap (by rw [elemI8]; exact Try.underlying34) .i64 _ (by omega) (by omega), elemI8, sizeI8]
    simp [Result.andThen, sliced, h1]
    exact Addr.add_lit ..
/-- 'list[:k]' -/
theorem que_take {w : World} {v : Value} {xs : List Int} (h : QueAt w v xs) (k : Nat) (hk : k ≤ xs.length) : ∃ u, (∀ W : World, (Instr.slice 34 v none (some (.int .i64 (k : Int))) none).run Try.prog W = .ok u W) ∧ QueAt w u (xs.take k) ∧ u.ownBlock = v.ownBlock := by
  rcases h with ⟨rfl, rfl⟩ | ⟨g, off, cap, cur, rfl, hg, hc, hm, hs, ht⟩
  · obtain rfl : k = 0 := by simpa using hk
    refine ⟨.slice none 0 0, fun W => ?_, Or.inl ⟨rfl, rfl⟩, rfl⟩
    rw [run_slice_h W 34 _ 0 0 (by rw [elemI8]; exact Try.underlying34) .i64 _ (by omega) (by omega), elemI8, sizeI8]
    simp [Result.andThen, sliced]
  · refine ⟨.slice (some ⟨g, off, none⟩) (xs.take k).length cap, fun W => ?_, Or.inr ⟨g, off, cap, cur, rfl, hg, by rw [List.length_take]; omega, hm, hs, ?_⟩, rfl⟩
    · rw [run_slice_h W 34 _ xs.length cap (by rw [elemI8]; exact Try.underlying34) .i64 _ (by omega) (by omega), elemI8, sizeI8]
      by_cases h0 : cap = 0
      · have h1 : k = 0 := by omega
        subst h1
        simp [Result.andThen, sliced, h0]
      · simp [Result.andThen, sliced, Addr.add_lit, h0]
        omega
    · rw [List.length_take, Nat.min_eq_left hk, cellsInt64S, List.map_take]
      have h1 := congrArg (List.take k) ht
      rw [List.take_take, Nat.min_eq_left hk] at h1
      exact h1
/-- 'list[k:]' -/
theorem que_from {w : World} {v : Value} {xs : List Int} (h : QueAt w v xs) (k : Nat) (hk : k ≤ xs.length) : ∃ u, (∀ W : World, (Instr.slice 34 v (some (.int .i64 (k : Int))) none none).run Try.prog W = .ok u W) ∧ QueAt w u (xs.drop k) := by
  rcases h with ⟨rfl, rfl⟩ | ⟨g, off, cap, cur, rfl, hg, hc, hm, hs, ht⟩
  · obtain rfl : k = 0 := by simpa using hk
    refine ⟨.slice none 0 0, fun W => ?_, Or.inl ⟨rfl, rfl⟩⟩
    rw [run_slice_l W 34 _ 0 0 (by rw [elemI8]; exact Try.underlying34) .i64 _ (by omega) (by omega), elemI8, sizeI8]
    simp [Result.andThen, sliced]
  · have hdl : (xs.drop k).length = xs.length - k := List.length_drop
    have ht2 : (cur.toList.drop (off + k)).take (xs.length - k) = cellsInt64S (xs.drop k) := by
      have h1 := congrArg (List.drop k) ht
      rw [List.drop_take, List.drop_drop] at h1
      rw [h1]
      simp [cellsInt64S, List.map_drop]
    by_cases h1 : cap = k
    · refine ⟨.slice (some ⟨g, off, none⟩) (xs.drop k).length (cap - k), fun W => ?_, Or.inr ⟨g, off, cap - k, cur, rfl, hg, by omega, by omega, by omega, ?_⟩⟩
      · rw [run_slice_l W 34 _ xs.length cap (by rw [elemI8]; exact Try.underlying34) .i64 _ (by omega) (by omega), elemI8, sizeI8, hdl]
        simp [Result.andThen, sliced, h1]
      · have h0 : xs.drop k = [] := List.drop_eq_nil_of_le (by omega)
        rw [h0]; rfl
    · refine ⟨.slice (some ⟨g, off + k, none⟩) (xs.drop k).length (cap - k), fun W => ?_, Or.inr ⟨g, off + k, cap - k, cur, rfl, hg, by omega, by omega, by omega, by rw [hdl]; exact ht2⟩⟩
      rw [run_slice_l W 34 _ xs.length cap (by rw [elemI8]; exact Try.underlying34) .i64 _ (by omega) (by omega), elemI8, sizeI8, hdl]
      simp [Result.andThen, sliced, h1]
      exact Addr.add_lit ..
theorem run_room_off {P : Program} (w : World) (t ty e : TypeId) (i : TypeInfo) (ht : P.underlying t = some (.slice e)) (hi : P.info? e = some i)
    (g off sLen sCap : Nat) (cur : Array Value) (hg : w.heap[g]? = some (.cells cur e (0, 0)))
    (a : Addr) (m c : Nat) (news : List Value) (hl : news.length = m * i.size) (hnews : ∀ j u, news[j]? = some u → w.cell? (a.add j) = some u) (h1 : ∀ u ∈ news, u.oneCell' = true)
    (hroom : sLen + m ≤ sCap) (hfit : off + sLen * i.size + news.length ≤ cur.size) :
    (Builtin.append_ #[t, t] ty #[.slice (some ⟨g, off, none⟩) sLen sCap, .slice (some a) m c]).run P w =
      .ok (.slice (some ⟨g, off, none⟩) (sLen + m) sCap) (w.setRow g (cur.toList.take (off + sLen * i.size) ++ news ++ cur.toList.drop (off + sLen * i.size + news.length)).toArray) := by
  have hf := run_firstCells_some (P := P) w i.size m a m c news hl hnews
  have hst := run_storeCells_at P g (off + sLen * i.size) e news 0 cur w hg (by simpa using hfit) h1
  simp only [Nat.add_zero] at hst
  simp [Builtin.append_, run_underlying ht, sizeOf, typeInfo, hi, Builtin.lenOf, hroom, hf, Addr.add_lit, hst]
/-- append onto such a row -/
theorem que_append (w : World) (ty : TypeId) (v u : Value) (xs ys : List Int) (h : QueAt w v xs) (hu : Rd w u (cellsInt64S ys)) (hl : xs.length + ys.length ≤ 16777216) :
    ∃ v' w', (Builtin.append_ #[34, 34] ty #[v, u]).run Try.prog w = .ok v' w' ∧ QueAt w' v' (xs ++ ys) ∧ w.grownBy w' v.ownBlock ∧ ∀ k, v'.ownBlock = some k → v.ownBlock = some k ∨ w.heap.size ≤ k := by
  obtain ⟨i0, hi, hz0, hz1, hz2⟩ := info_parts Try.info64
  have hU := Try.underlying34
  have hly : (cellsInt64S ys).length = ys.length := by simp
  have hlx : (cellsInt64S xs).length = xs.length := by simp
  obtain ⟨ao, c, rfl, hcap, hx⟩ := hu
  rw [hly] at hcap hx ⊢
  have hrefl : w.grownBy w v.ownBlock := ⟨rfl, rfl, rfl, Nat.le_refl _, fun _ _ _ => rfl⟩
  by_cases hy : ys = []
  · subst hy
    have hf : (Builtin.firstCells 1 0 (.slice ao 0 c)).run Try.prog w = .ok #[] w := by
      cases ao with
      | none => exact run_firstCells_none w 1 0 0 c
      | some b => exact run_firstCells_some w 1 0 b 0 c [] rfl (fun j u hj => by cases hj)
    refine ⟨v, w, ?_, by simpa using h, hrefl, fun k hk => Or.inl hk⟩
    rcases h with ⟨rfl, rfl⟩ | ⟨g, off, cap, cur, rfl, hg, hc, hm, hs, ht⟩
    · simp [Builtin.append_, run_underlying hU, sizeOf, typeInfo, hi, Builtin.lenOf, hz1, hf]
    · simp [Builtin.append_, run_underlying hU, sizeOf, typeInfo, hi, Builtin.lenOf, hz1, hf, hc, storeCells]
  · have hyp : 0 < ys.length := List.length_pos_iff.2 hy
    obtain ⟨b, o, rfl, hlt, hcc⟩ := hx (by intro e; rw [e] at hly; simp at hly; omega)
    have hnews : ∀ j u, (cellsInt64S ys)[j]? = some u → w.cell? ((⟨b, o, none⟩ : Addr).add j) = some u := fun j u hj => by
      rw [Addr.add_lit]
      have hj2 : j < ys.length := by
        rw [← hly]
        exact (List.getElem?_eq_some_iff.1 hj).1
      exact (hcc j hj2).trans hj
    have h1c := ints_oneCell .i64 ys
    rcases h with ⟨rfl, rfl⟩ | ⟨g, off, cap, cur, rfl, hg, hc, hm, hs, ht⟩
    · obtain ⟨v', w', hr, r1, r2, _⟩ := run_append_own (P := Try.prog) w w.heap.size 34 ty 2 i0 (.int .i64 0) 1 8 hU hi hz0 hz1 hz2 rfl (by decide) (.slice none 0 0) 0 [] (World.ownsRow_nil w _ _ _) ⟨b, o, none⟩ ys.length c (cellsInt64S ys) (by simp) hnews h1c (by unfold maxLen; omega) (by omega) (Nat.le_refl _)
      rw [Nat.zero_add] at r1
      exact ⟨v', w', hr, by simpa using que_owns r1, r2, fun k hk => Or.inr (r1.lt k hk).1⟩
    · by_cases hroom : xs.length + ys.length ≤ cap
      · have hr := run_room_off (P := Try.prog) w 34 ty 2 i0 hU hi g off xs.length cap cur hg ⟨b, o, none⟩ ys.length c (cellsInt64S ys) (by rw [hz1, hly, Nat.mul_one]) hnews h1c hroom (by rw [hz1, hly]; omega)
        rw [hz1, Nat.mul_one, hly] at hr
        refine ⟨_, _, hr, Or.inr ⟨g, off, cap, _, by rw [List.length_append], setRow_heap w g cur _ _ _ hg, by rw [List.length_append]; exact hroom, hm, ?_, ?_⟩, ⟨rfl, rfl, rfl, by simp, fun k _ hk => setRow_other w g k _ (fun e => hk (by simp [Value.ownBlock, e]))⟩, fun k hk => Or.inl hk⟩
        · have hcl : cur.toList.length = cur.size := Array.length_toList
          rw [List.size_toArray, List.length_append, List.length_append, List.length_take, List.length_drop, hly, hcl]
          omega
        · have hcl : cur.toList.length = cur.size := Array.length_toList
          have hlt2 : (cur.toList.take (off + xs.length)).length = off + xs.length := by rw [List.length_take, hcl]; omega
          have hlt3 : off ≤ (cur.toList.take (off + xs.length)).length := by omega
          have hla : (cellsInt64S xs ++ cellsInt64S ys).length = xs.length + ys.length := by simp
          have e1 : (cur.toList.take (off + xs.length) ++ cellsInt64S ys ++ cur.toList.drop (off + xs.length + ys.length)).drop off = (cellsInt64S xs ++ cellsInt64S ys) ++ cur.toList.drop (off + xs.length + ys.length) := by
            rw [List.append_assoc, List.drop_append_of_le_length hlt3, List.drop_take, show off + xs.length - off = xs.length by omega, ht, List.append_assoc]
          show ((cur.toList.take (off + xs.length) ++ cellsInt64S ys ++ cur.toList.drop (off + xs.length + ys.length)).drop off).take (xs ++ ys).length = cellsInt64S (xs ++ ys)
          rw [e1, List.length_append, ← hla, List.take_left]
          simp [cellsInt64S]
      · have holds : ∀ j u, (cellsInt64S xs)[j]? = some u → w.cell? ((⟨g, off, none⟩ : Addr).add j) = some u := fun j u hj => by
          rw [Addr.add_lit]
          have hj2 : j < xs.length := by
            rw [← hlx]
            exact (List.getElem?_eq_some_iff.1 hj).1
          exact (que_cell hg ht hj2).trans ((ints_get .i64 xs j hj2).symm.trans hj)
        obtain ⟨v', w', hr, r1, r2⟩ := run_append_arg_grows (P := Try.prog) w 34 ty 2 i0 (.int .i64 0) 1 8 hU hi hz0 hz1 hz2 rfl (by decide) ⟨g, off, none⟩ xs.length cap (cellsInt64S xs) (by simp) holds ⟨b, o, none⟩ ys.length c (cellsInt64S ys) (by simp) hnews (by omega) (by unfold maxLen; omega) (by omega)
        have r1' : w'.ownsRow w.heap.size 2 1 v' (xs ++ ys).length (cellsInt64S (xs ++ ys)) := by rw [List.length_append, cellsInt64S, List.map_append]; exact r1
        exact ⟨v', w', hr, que_owns r1', ⟨r2.os, r2.tape, r2.output, r2.size, fun k hk _ => r2.block k hk (by simp)⟩, fun k hk => Or.inr (r1.lt k hk).1⟩
/-- the same, for the walk -/
theorem que_step {ops : Array Oper} {rest : List Oper} {o : Oper} {a : Act} {w : World} {Q : Exit → Act → World → Prop} (hgd : o.guard = none) (s x : Operand)
    (ho : o.op = .call { callee := .builtin .append, args := #[s, x], argTypes := #[34, 34] })
    (v u : Value) (xs ys : List Int) (hs : a.eval s = v) (hx : a.eval x = u) (h : QueAt w v xs) (hu : Rd w u (cellsInt64S ys)) (hl : xs.length + ys.length ≤ 16777216)
    (hK : ∀ v' w', QueAt w' v' (xs ++ ys) → w.grownBy w' v.ownBlock → (∀ k, v'.ownBlock = some k → v.ownBlock = some k ∨ w.heap.size ≤ k) → wpList Try.prog ops Q rest (a.put o.dst v') w') : wpList Try.prog ops Q (o :: rest) a w := by
  refine wpList_plain hgd fun K hK' => ?_
  obtain ⟨v', w', hrun, r1, r2, r3⟩ := que_append w o.type v u xs ys h hu hl
  unfold Oper.wp
  simp [execOp, ho, resolve, invoke, builtin, hs, hx, hrun, Result.andThen]
  exact hK' _ _ (hK v' w' r1 r2 r3)
theorem append_none (w : World) (ty : TypeId) (v u : Value) (xs : List Int) (h : QueAt w v xs) (hu : Rd w u (cellsInt64S [])) : (Builtin.append_ #[34, 34] ty #[v, u]).run Try.prog w = .ok v w := by
  obtain ⟨i0, hi, hz0, hz1, hz2⟩ := info_parts Try.info64
  have hU := Try.underlying34
  obtain ⟨ao, c, rfl, hcap, hx⟩ := hu
  have hf : (Builtin.firstCells 1 0 (.slice ao 0 c)).run Try.prog w = .ok #[] w := by
    cases ao with
    | none => exact run_firstCells_none w 1 0 0 c
    | some b => exact run_firstCells_some w 1 0 b 0 c [] rfl (fun j u hj => by cases hj)
  rcases h with ⟨rfl, rfl⟩ | ⟨g, off, cap, cur, rfl, hg, hc, hm, hs, ht⟩
  · simp [Builtin.append_, run_underlying hU, sizeOf, typeInfo, hi, Builtin.lenOf, hz1, hf]
  · simp [Builtin.append_, run_underlying hU, sizeOf, typeInfo, hi, Builtin.lenOf, hz1, hf, hc, storeCells]
/-- append onto a row that is owned: it is owned, in the same block or in a new one -/
theorem own_append (w : World) (ty : TypeId) (B : Nat) (v u : Value) (xs ys : List Int) (h : w.ownsRow B 2 1 v xs.length (cellsInt64S xs)) (hu : Rd w u (cellsInt64S ys)) (hl : xs.length + ys.length ≤ 16777216) (hB : B ≤ w.heap.size) :
    ∃ v' w', (Builtin.append_ #[34, 34] ty #[v, u]).run Try.prog w = .ok v' w' ∧ w'.ownsRow B 2 1 v' (xs ++ ys).length (cellsInt64S (xs ++ ys)) ∧ w.grownBy w' v.ownBlock ∧ ∀ k, v'.ownBlock = some k → v.ownBlock = some k ∨ w.heap.size ≤ k := by
  obtain ⟨i0, hi, hz0, hz1, hz2⟩ := info_parts Try.info64
  by_cases hy : ys = []
  · subst hy
    exact ⟨v, w, append_none w ty v u xs (que_owns h) hu, by simpa using h, ⟨rfl, rfl, rfl, Nat.le_refl _, fun _ _ _ => rfl⟩, fun k hk => Or.inl hk⟩
  · obtain ⟨v1, w1, hr1, _, _, hi1⟩ := que_append w ty v u xs ys (que_owns h) hu hl
    have hly : (cellsInt64S ys).length = ys.length := by simp
    obtain ⟨ao, c, rfl, hcap, hx⟩ := hu
    have hyp : 0 < ys.length := List.length_pos_iff.2 hy
    obtain ⟨b, o, rfl, hlt, hcc⟩ := hx (by intro e; rw [e] at hly; simp at hly; omega)
    have hnews : ∀ j u, (cellsInt64S ys)[j]? = some u → w.cell? ((⟨b, o, none⟩ : Addr).add j) = some u := fun j u hj => by
      rw [Addr.add_lit]
      exact (hcc j (List.getElem?_eq_some_iff.1 hj).1).trans hj
    obtain ⟨v2, w2, hr2, r1, r2, _⟩ := run_append_own (P := Try.prog) w B 34 ty 2 i0 (.int .i64 0) 1 8 Try.underlying34 hi hz0 hz1 hz2 rfl (by decide) v xs.length (cellsInt64S xs) h ⟨b, o, none⟩ (cellsInt64S ys).length c (cellsInt64S ys) (by simp) hnews (ints_oneCell .i64 ys) (by unfold maxLen; omega) (by omega) hB
    have e := hr1.symm.trans hr2
    simp only [Result.ok.injEq] at e
    obtain ⟨rfl, rfl⟩ := e
    refine ⟨v1, w1, hr1, ?_, r2, hi1⟩
    rw [List.length_append, cellsInt64S, List.map_append, ← hly]
    exact r1
theorem own_step {ops : Array Oper} {rest : List Oper} {o : Oper} {a : Act} {w : World} {Q : Exit → Act → World → Prop} (hgd : o.guard = none) (s x : Operand)
    (ho : o.op = .call { callee := .builtin .append, args := #[s, x], argTypes := #[34, 34] })
    (B : Nat) (v u : Value) (xs ys : List Int) (hs : a.eval s = v) (hx : a.eval x = u) (h : w.ownsRow B 2 1 v xs.length (cellsInt64S xs)) (hu : Rd w u (cellsInt64S ys)) (hl : xs.length + ys.length ≤ 16777216) (hB : B ≤ w.heap.size)
    (hK : ∀ v' w', w'.ownsRow B 2 1 v' (xs ++ ys).length (cellsInt64S (xs ++ ys)) → w.grownBy w' v.ownBlock → (∀ k, v'.ownBlock = some k → v.ownBlock = some k ∨ w.heap.size ≤ k) → wpList Try.prog ops Q rest (a.put o.dst v') w') : wpList Try.prog ops Q (o :: rest) a w := by
  refine wpList_plain hgd fun K hK' => ?_
  obtain ⟨v', w', hrun, r1, r2, r3⟩ := own_append w o.type B v u xs ys h hu hl hB
  unfold Oper.wp
  simp [execOp, ho, resolve, invoke, builtin, hs, hx, hrun, Result.andThen]
  exact hK' _ _ (hK v' w' r1 r2 r3)
/-- 'list[:k]' of a row that is owned -/
theorem own_take {w : World} {B : Nat} {v : Value} {xs : List Int} (h : w.ownsRow B 2 1 v xs.length (cellsInt64S xs)) (k : Nat) (hk : k ≤ xs.length) : ∃ u, (∀ W : World, (Instr.slice 34 v none (some (.int .i64 (k : Int))) none).run Try.prog W = .ok u W) ∧ w.ownsRow B 2 1 u (xs.take k).length (cellsInt64S (xs.take k)) ∧ u.ownBlock = v.ownBlock := by
  have htl : (xs.take k).length = k := by rw [List.length_take]; omega
  rcases h.2 with ⟨rfl, h0⟩ | ⟨g, cap, cur, rfl, hB, hg, hc, hm, hs, ht⟩
  · obtain rfl : k = 0 := by omega
    refine ⟨.slice none 0 0, fun W => ?_, by simpa using World.ownsRow_nil w B 2 1, rfl⟩
    have e : xs.length = 0 := h0
    rw [run_slice_h W 34 _ 0 0 (by rw [elemI8]; exact Try.underlying34) .i64 _ (by omega) (by omega), elemI8, sizeI8]
    simp [Result.andThen, sliced]
  · refine ⟨.slice (some ⟨g, 0, none⟩) (xs.take k).length cap, fun W => ?_, ⟨by simp, Or.inr ⟨g, cap, cur, rfl, hB, hg, by omega, hm, hs, ?_⟩⟩, rfl⟩
    · rw [run_slice_h W 34 _ xs.length cap (by rw [elemI8]; exact Try.underlying34) .i64 _ (by omega) (by omega), elemI8, sizeI8]
      by_cases h0 : cap = 0
      · have h1 : k = 0 := by omega
        subst h1
        simp [Result.andThen, sliced, h0]
      · simp [Result.andThen, sliced, Addr.add_lit, h0]
        omega
    · rw [htl, Nat.mul_one, cellsInt64S, List.map_take]
      have h1 := congrArg (List.take k) ht
      rw [List.take_take, Nat.mul_one, Nat.min_eq_left hk] at h1
      exact h1
theorem grown_into {w a b : World} {row row' : Option Nat} (h : w.grownBy a row) (k : a.grownBy b row') (hr : ∀ j, row' = some j → row = some j ∨ w.heap.size ≤ j) : w.grownBy b row :=
  ⟨k.os.trans h.os, k.tape.trans h.tape, k.output.trans h.output, Nat.le_trans h.size k.size, fun j hj hne => (k.block j (Nat.lt_of_lt_of_le hj h.size) (fun e => by
    rcases hr j e.symm with h1 | h1
    · exact hne h1.symm
    · omega)).trans (h.block j hj hne)⟩
end Go.Proofs.Ytfoncmeplofedaf
