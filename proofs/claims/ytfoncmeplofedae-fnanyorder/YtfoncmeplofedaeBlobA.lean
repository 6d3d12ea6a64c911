/- APPENDING A ROW OF BLOBS THAT CAN BE READ to one that is owned, whether it is empty, nil or neither; parts of a row. -/
import Derived.Test.YtfoncmeplofedaeBlobS
import Derived.Deep.Upon
namespace Go.Proofs.Ytfoncmeplofedae
open Go.RowKit
set_option linter.unusedVariables false
theorem blC_oneCell (l : List Bl) : ∀ u ∈ blC l, u.oneCell' = true := by
  intro u hu
  obtain ⟨p, _, h⟩ := List.mem_flatMap.1 hu
  simp only [List.mem_cons, List.mem_nil_iff, or_false] at h
  rcases h with rfl | rfl <;> rfl
theorem blC_at {w : World} {b off : Nat} {l : List Bl} (hc : ∀ j, j < l.length → w.cell? ⟨b, off + j * 2, none⟩ = some (.int .i64 (l.getD j bl0).1) ∧ w.cell? ⟨b, off + j * 2 + 1, none⟩ = some (.string (l.getD j bl0).2)) :
    ∀ j u, (blC l)[j]? = some u → w.cell? (Addr.add ⟨b, off, none⟩ j) = some u := by
  intro j u hu
  have hj := (List.getElem?_eq_some_iff.1 hu).1
  rw [blC_len] at hj
  obtain ⟨e0, e1⟩ := blC_get l (j / 2) (by omega)
  obtain ⟨c0, c1⟩ := hc (j / 2) (by omega)
  rw [Addr.add_lit]
  rcases Nat.mod_two_eq_zero_or_one j with h | h
  · rw [show j / 2 * 2 = j by omega] at e0 c0
    rw [e0] at hu
    rw [c0, hu]
  · rw [show j / 2 * 2 + 1 = j by omega] at e1
    rw [show off + j / 2 * 2 + 1 = off + j by omega] at c1
    rw [e1] at hu
    rw [c1, hu]
theorem run_append_blobs (w : World) (ty : TypeId) (base : Nat) (v : Value) (xs ys : List Bl) (vx : Value) (hown : w.ownsRow base 76 2 v xs.length (blC xs)) (hr : RdB w vx ys) (hb : xs.length + ys.length ≤ 1048576) (hbase : base ≤ w.heap.size) :
    ∃ v' w', (Builtin.append_ #[40, 40] ty #[v, vx]).run Try.prog w = .ok v' w' ∧ w'.ownsRow base 76 2 v' (xs.length + ys.length) (blC (xs ++ ys)) ∧ w.grownBy w' v.ownBlock := by
  obtain ⟨i0, hi, hz0, hz1, hz2⟩ := info_parts Try.infoBl
  have go : ∀ (ad : Addr) (c : Nat), vx = .slice (some ad) ys.length c → (∀ j u, (blC ys)[j]? = some u → w.cell? (ad.add j) = some u) → ∃ v' w', (Builtin.append_ #[40, 40] ty #[v, vx]).run Try.prog w = .ok v' w' ∧ w'.ownsRow base 76 2 v' (xs.length + ys.length) (blC (xs ++ ys)) ∧ w.grownBy w' v.ownBlock := fun ad c hv hc => by
    obtain ⟨v', w', h1, h2, h3, _⟩ := run_append_own (P := Try.prog) w base 40 ty 76 i0 (.agg #[.int .i64 0, .string ⟨#[]⟩]) 2 24 Try.underlying40 hi hz0 hz1 hz2 rfl (by decide) v xs.length (blC xs) hown ad ys.length c (blC ys) (blC_len ys) hc (blC_oneCell ys) (by unfold maxLen; omega) (by omega) hbase
    subst hv
    rw [← blC_append] at h2
    exact ⟨v', w', h1, h2, h3⟩
  rcases rdB_cases hr with ⟨h0, ao, cap, rfl⟩ | ⟨hp, b, off, cap, rfl, _, hlt, hc⟩
  · subst h0
    cases ao with
    | some ad => exact go ad cap rfl (fun j u hu => by cases hu)
    | none =>
      rw [List.append_nil]
      have hs : Src Try.prog i0.size 40 (.slice none 0 cap) 0 [] w := Src.ofNil w Try.underlying40 cap
      rcases hown.2 with ⟨rfl, h0⟩ | ⟨g, c, cur, rfl, hg, hh, hn, hm, hs2, ht⟩
      · rw [h0]
        exact ⟨_, w, run_append_nothing w 40 40 ty 76 i0 Try.underlying40 hi none 0 0 (Nat.le_refl _) _ hs, by simpa [h0] using hown, World.grownBy.refl _ _⟩
      · exact ⟨_, w, run_append_nothing w 40 40 ty 76 i0 Try.underlying40 hi _ _ _ hn _ hs, hown, World.grownBy.refl _ _⟩
  · exact go ⟨b, off, none⟩ cap rfl (blC_at hc)
theorem wpList_append_blobs {w : World} {ops : Array Oper} {rest : List Oper} {o : Oper} {a : Act} {Q : Exit → Act → World → Prop} (hgd : o.guard = none) (s x : Operand)
    (ho : o.op = .call { callee := .builtin .append, args := #[s, x], argTypes := #[40, 40] })
    (base : Nat) (v : Value) (xs ys : List Bl) (vx : Value) (hs : a.eval s = v) (hx : a.eval x = vx) (hown : w.ownsRow base 76 2 v xs.length (blC xs)) (hr : RdB w vx ys) (hb : xs.length + ys.length ≤ 1048576) (hbase : base ≤ w.heap.size)
    (h : ∀ v' w', w'.ownsRow base 76 2 v' (xs.length + ys.length) (blC (xs ++ ys)) → w.grownBy w' v.ownBlock → wpList Try.prog ops Q rest (a.put o.dst v') w') : wpList Try.prog ops Q (o :: rest) a w := by
  refine wpList_plain hgd fun K hK => ?_
  obtain ⟨v', w', hrun, r1, r2⟩ := run_append_blobs w o.type base v xs ys vx hown hr hb hbase
  unfold Oper.wp execOp
  simp only [ho, resolve, invoke, builtin, Sem.run_bind, Sem.run_pure, Result.andThen_ok, List.map_toArray, List.map_cons, List.map_nil, hs, hx, hrun]
  exact hK _ _ (h v' w' r1 r2)
theorem step_append_blobs {w : World} {ops : Array Oper} {o : Oper} {a : Act} {K : Act → World → Prop} {Q : Exit → Act → World → Prop} {E : Prop} (hgd : o.guard = none) (s x : Operand)
    (ho : o.op = .call { callee := .builtin .append, args := #[s, x], argTypes := #[40, 40] })
    (base : Nat) (v : Value) (xs ys : List Bl) (vx : Value) (hs : a.eval s = v) (hx : a.eval x = vx) (hown : w.ownsRow base 76 2 v xs.length (blC xs)) (hr : RdB w vx ys) (hb : xs.length + ys.length ≤ 1048576) (hbase : base ≤ w.heap.size)
    (h : ∀ v' w', w'.ownsRow base 76 2 v' (xs.length + ys.length) (blC (xs ++ ys)) → w.grownBy w' v.ownBlock → K (a.put o.dst v') w') :
    if Region.wanted o (yielded ops a.tmps) = true then Oper.wp Try.prog o a w K Q else E := by
  have hw : Region.wanted o (yielded ops a.tmps) = true := by simp [Region.wanted, hgd]
  rw [if_pos hw]
  obtain ⟨v', w', hrun, r1, r2⟩ := run_append_blobs w o.type base v xs ys vx hown hr hb hbase
  unfold Oper.wp execOp
  simp only [ho, resolve, invoke, builtin, Sem.run_bind, Sem.run_pure, Result.andThen_ok, List.map_toArray, List.map_cons, List.map_nil, hs, hx, hrun]
  exact h v' w' r1 r2
/-- one blob, as append's argument -/
theorem rdB_one (w : World) (x : Bl) (e : TypeId) : RdB (w.alloc (.cells #[.int .i64 x.1, .string x.2] e)) (.slice (some ⟨w.heap.size, 0, none⟩) 1 1) [x] := by
  refine ⟨_, 1, rfl, Nat.le_refl _, fun _ => ⟨_, 0, rfl, by rw [World.size_alloc]; omega, fun j hj => ?_⟩⟩
  obtain rfl : j = 0 := by simpa using hj
  exact ⟨by simp, by simp⟩
/-- the head of a row -/
theorem rdB_take {w : World} {ao : Option Addr} {n cap : Nat} {l : List Bl} (h : RdB w (.slice ao n cap) l) (k : Nat) (hk : k ≤ l.length) : RdB w (.slice ao k cap) (l.take k) := by
  obtain ⟨ao', cap', hv, hcap, hx⟩ := h
  simp only [Value.slice.injEq] at hv
  obtain ⟨rfl, rfl, rfl⟩ := hv
  have hl : (l.take k).length = k := by rw [List.length_take]; omega
  refine ⟨ao, cap, by rw [hl], by omega, fun hne => ?_⟩
  obtain ⟨b, off, ha, hlt, hc⟩ := hx (fun h0 => hne (by rw [h0]; simp))
  refine ⟨b, off, ha, hlt, fun j hj => ?_⟩
  rw [hl] at hj
  have e : (l.take k).getD j bl0 = l.getD j bl0 := by simp [List.getD, hj]
  rw [e]
  exact hc j (by omega)
/-- the tail of a row -/
theorem rdB_drop {w : World} {b off n cap : Nat} {l : List Bl} (h : RdB w (.slice (some ⟨b, off, none⟩) n cap) l) (k c' : Nat) (hk : k ≤ l.length) (hc' : l.length - k ≤ c') : RdB w (.slice (some ⟨b, off + k * 2, none⟩) (n - k) c') (l.drop k) := by
  obtain ⟨ao', cap', hv, hcap, hx⟩ := h
  simp only [Value.slice.injEq] at hv
  obtain ⟨rfl, rfl, rfl⟩ := hv
  have hl : (l.drop k).length = l.length - k := List.length_drop
  refine ⟨_, c', by rw [hl], by omega, fun hne => ?_⟩
  obtain ⟨b', off', ha, hlt, hc⟩ := hx (fun h0 => hne (by rw [h0]; simp))
  simp only [Option.some.injEq, Addr.mk.injEq, and_true] at ha
  obtain ⟨rfl, rfl⟩ := ha
  refine ⟨b, off + k * 2, rfl, hlt, fun j hj => ?_⟩
  rw [hl] at hj
  have e : (l.drop k).getD j bl0 = l.getD (k + j) bl0 := by simp [List.getD]
  rw [e]
  have h := hc (k + j) (by omega)
  rw [show off + (k + j) * 2 = off + k * 2 + j * 2 by omega] at h
  exact h
end Go.Proofs.Ytfoncmeplofedae
