/- CONTRACT: slices.Delete of one from a row of what is at hand. -/
import Derived.Test.YthcjfjgaajjoaanHandI
namespace Go.Proofs.Ythcjfjgaajjoaan
open Go.RowKit
set_option linter.unusedVariables false
theorem step_roomH {ops : Array Oper} {o : Oper} {a : Act} {w : World} {K : Act → World → Prop} {Q : Exit → Act → World → Prop} {E : Prop} (hgd : o.guard = none) (s x : Operand)
    (ho : o.op = .call { callee := .builtin .append, args := #[s, x], argTypes := #[75, 75] }) (v u : Value) (r : Value) (P : World → Prop) (hs : a.eval s = v) (hx : a.eval x = u)
    (hr : ∃ w', (Builtin.append_ #[75, 75] o.type #[v, u]).run Try.prog w = .ok r w' ∧ P w')
    (hK : ∀ w', P w' → K (a.put o.dst r) w') :
    if Region.wanted o (yielded ops a.tmps) = true then Oper.wp Try.prog o a w K Q else E := by
  have hw : Region.wanted o (yielded ops a.tmps) = true := by simp [Region.wanted, hgd]
  rw [if_pos hw]
  obtain ⟨w', hr, hp⟩ := hr
  unfold Oper.wp
  simp [execOp, ho, resolve, invoke, builtin, hs, hx, hr, Result.andThen]
  exact hK w' hp
set_option maxHeartbeats 1000000 in
set_option maxRecDepth 100000 in
theorem deleteH_any (B : Nat) (v : Value) (l : List Hl) (i : Nat) (w : World) (ho : OwnH w B v l) (hl : l.length ≤ 1048576) (hi : i < l.length) :
    Calls Try.prog 43 #[v, .int .i64 (i : Int), .int .i64 ((i : Int) + 1)] w fun e w' => ∃ v', e = .returned v' ∧ OwnH w' B v' (l.eraseIdx i) ∧ v'.ownBlock = v.ownBlock ∧ w.grownBy w' v.ownBlock := by
  obtain ⟨i0, hi0, hz0, hz1, hz2⟩ := info_parts Try.infoHl
  rcases ownH_cases ho with ⟨rfl, _⟩ | ⟨g, cap, cur, rfl, hBg, hg, hcap, hcm, hh, hcs, hct, _⟩
  · exact absurd hi (Nat.not_lt_zero _)
  have hel : Try.prog.elem 75 = 78 := by kernel_rfl
  have hsz : ∀ W : World, (sizeOf 78).run Try.prog W = .ok 3 W := fun W => by simp [sizeOf, typeInfo, hi0, hz1]
  obtain ⟨n, hn⟩ : ∃ n, n = l.length := ⟨_, rfl⟩
  rw [← hn] at hl hi hcap hct ⊢
  have hlen : (hlC l).length = n * 3 := by rw [hlC_len, hn]
  -- the parts
  have hs1 : ∀ W, (Instr.slice 75 (.slice (some ⟨g, 0, none⟩) n cap) (some (.int .i64 (i : Int))) (some (.int .i64 ((i : Int) + 1))) (some (.int .i64 (n : Int)))).run Try.prog W = .ok (sliced (some ⟨g, 0, none⟩) i (i + 1) n 3) W := fun W => by
    rw [run_slice_lhm W 75 _ _ cap (by rw [hel]; exact Try.underlying75) .i64 .i64 .i64 _ _ _ (by omega) (by omega) (by omega) (by omega), hel, hsz]
    have e : ((i : Int) + 1).toNat = i + 1 := by omega
    simp [Result.andThen, e]
  have hs2 : ∀ W, (Instr.slice 75 (.slice (some ⟨g, 0, none⟩) n cap) none (some (.int .i64 (i : Int))) none).run Try.prog W = .ok (.slice (some ⟨g, 0, none⟩) i cap) W := fun W => by
    rw [run_slice_h W 75 _ _ cap (by rw [hel]; exact Try.underlying75) .i64 _ (by omega) (by omega), hel, hsz]
    have hc : ¬ cap = 0 := by omega
    simp [Result.andThen, sliced, hc, Addr.add]
  have hs3 : ∃ u, (∀ W, (Instr.slice 75 (.slice (some ⟨g, 0, none⟩) n cap) (some (.int .i64 ((i : Int) + 1))) none none).run Try.prog W = .ok u W) ∧ ∃ a c, u = .slice (some a) (n - (i + 1)) c ∧ (i + 1 < n → a = ⟨g, (i + 1) * 3, none⟩) := by
    refine ⟨sliced (some ⟨g, 0, none⟩) (i + 1) n cap 3, fun W => ?_, ?_⟩
    · rw [run_slice_l W 75 _ n cap (by rw [hel]; exact Try.underlying75) .i64 _ (by omega) (by omega), hel, hsz]
      have e : ((i : Int) + 1).toNat = i + 1 := by omega
      simp [Result.andThen, e]
    · unfold sliced
      by_cases hc : cap = i + 1
      · rw [if_pos hc]
        exact ⟨_, _, rfl, fun h => by omega⟩
      · rw [if_neg hc]
        refine ⟨_, _, rfl, fun h => ?_⟩
        simp [Addr.add]
  obtain ⟨u3, hs3, a3, c3, rfl, ha3⟩ := hs3
  -- the append, in its own room
  have hdr : hlC (l.drop (i + 1)) = (hlC l).drop ((i + 1) * 3) := (hlC_drop l (i + 1) (by omega)).symm
  have hnews : ∀ W : World, W.heap = w.heap → ∀ j u, (hlC (l.drop (i + 1)))[j]? = some u → W.cell? (a3.add j) = some u := fun W hW j u hu => by
    have hj := (List.getElem?_eq_some_iff.1 hu).1
    rw [hlC_len, List.length_drop] at hj
    rw [ha3 (by omega), Addr.add_lit, cell_of_row W g ((i + 1) * 3 + j) _ _ (0, 0) (by rw [hW]; exact hh)]
    rw [hdr, List.getElem?_drop, ← hct, List.getElem?_take_of_lt (by omega)] at hu
    rw [← Array.getElem?_toList]
    exact hu
  have happ : ∀ W : World, W.heap = w.heap → ∀ ty, (Builtin.append_ #[75, 75] ty #[.slice (some ⟨g, 0, none⟩) i cap, .slice (some a3) (n - (i + 1)) c3]).run Try.prog W = .ok (.slice (some ⟨g, 0, none⟩) (n - 1) cap) (W.setRow g (cur.toList.take (i * 3) ++ hlC (l.drop (i + 1)) ++ cur.toList.drop (i * 3 + (hlC (l.drop (i + 1))).length)).toArray) := fun W hW ty => by
    have h := run_append_room (P := Try.prog) W 75 ty 78 i0 Try.underlying75 hi0 g i cap cur (by rw [hW]; exact hh) a3 (n - (i + 1)) c3 (hlC (l.drop (i + 1))) (by rw [hlC_len, List.length_drop, hz1, ← hn]) (hnews W hW) (hlC_oneCell _) (by omega) (by rw [hz1, hlC_len, List.length_drop]; omega)
    rw [hz1] at h
    rw [h, show i + (n - (i + 1)) = n - 1 by omega]
  obtain ⟨C1, hC1⟩ : ∃ C1, C1 = cur.toList.take (i * 3) ++ hlC (l.drop (i + 1)) ++ cur.toList.drop (i * 3 + (hlC (l.drop (i + 1))).length) := ⟨_, rfl⟩
  rw [← hC1] at happ
  have hdl : (hlC (l.drop (i + 1))).length = (n - (i + 1)) * 3 := by rw [hlC_len, List.length_drop, hn]
  have hC1l : C1.length = cap * 3 := by
    rw [hC1, List.length_append, List.length_append, List.length_take, List.length_drop, Array.length_toList, hdl]
    omega
  have hti : cur.toList.take (i * 3) = hlC (l.take i) := by
    rw [← hlC_take l i (by omega), ← hct, List.take_take, Nat.min_eq_left (by omega)]
  have herl : (l.eraseIdx i).length = n - 1 := by rw [List.length_eraseIdx_of_lt (by omega), hn]
  have hC1t : C1.take ((n - 1) * 3) = hlC (l.eraseIdx i) := by
    rw [hC1, List.eraseIdx_eq_take_drop_succ, hlC_append, hti]
    have e : (hlC (l.take i) ++ hlC (l.drop (i + 1))).length = (n - 1) * 3 := by rw [← hlC_append, ← List.eraseIdx_eq_take_drop_succ, hlC_len, herl]
    rw [List.take_append_of_le_length (by omega), List.take_of_length_le (by omega)]
  -- the rest, cleared
  have hs4 : ∀ W, (Instr.slice 75 (.slice (some ⟨g, 0, none⟩) (n - 1) cap) (some (.int .i64 ((n - 1 : Nat) : Int))) (some (.int .i64 (n : Int))) none).run Try.prog W = .ok (.slice (some ⟨g, (n - 1) * 3, none⟩) 1 (cap - (n - 1))) W := fun W => by
    rw [run_slice_lh W 75 _ _ cap (by rw [hel]; exact Try.underlying75) .i64 .i64 _ _ (by omega) (by omega) (by omega), hel, hsz]
    have hc : ¬ cap = n - 1 := by omega
    have e1 : n - (n - 1) = 1 := by omega
    simp [Result.andThen, sliced, hc, Addr.add, e1]
    try omega
  obtain ⟨C2, hC2⟩ : ∃ C2, C2 = C1.take ((n - 1) * 3) ++ hlC [(0, 0, 0)] ++ C1.drop ((n - 1) * 3 + 3) := ⟨_, rfl⟩
  have hclr : ∀ W : World, W.heap[g]? = some (.cells C1.toArray 78 (0, 0)) → ∀ ty, (Builtin.clear_ #[75] ty #[.slice (some ⟨g, (n - 1) * 3, none⟩) 1 (cap - (n - 1))]).run Try.prog W = .ok (.tuple #[]) (W.setRow g C2.toArray) := fun W hW ty => by
    have hst := run_storeCells_at Try.prog g ((n - 1) * 3) 78 (hlC [(0, 0, 0)]) 0 _ W hW (by simp [hlC_len, hC1l]; omega) (hlC_oneCell _)
    have hZ : (zeroValue 78).run Try.prog W = .ok (.agg #[.int .i64 0, .int .i64 0, .int .i64 0]) W := by kernel_rfl
    have hzc : (Builtin.zeroCells (Value.agg #[.int .i64 0, .int .i64 0, .int .i64 0]).cells 1).toList = hlC [(0, 0, 0)] := by simp [Builtin.zeroCells, Value.cells, hlC]; try rfl
    rw [Nat.add_zero, List.toList_toArray] at hst
    rw [hC2]
    simp [Builtin.clear_, run_underlying Try.underlying75, hZ, hzc, hst]
    rfl
  have hC2l : C2.length = cap * 3 := by
    rw [hC2, List.length_append, List.length_append, List.length_take, List.length_drop, hlC_len, hC1l]
    simp only [List.length_cons, List.length_nil]
    omega
  have hC2t : C2.take ((n - 1) * 3) = hlC (l.eraseIdx i) := by
    rw [hC2, hC1t, List.append_assoc, List.take_append_of_le_length (by rw [hlC_len, herl]; exact Nat.le_refl _), List.take_of_length_le (by rw [hlC_len, herl]; exact Nat.le_refl _)]
  have hP : ∀ W : World, W.os = w.os → W.tape = w.tape → W.output = w.output → W.heap = w.heap → ∀ ty, ∃ w', (Builtin.append_ #[75, 75] ty #[.slice (some ⟨g, 0, none⟩) i cap, .slice (some a3) (n - (i + 1)) c3]).run Try.prog W = .ok (.slice (some ⟨g, 0, none⟩) (n - 1) cap) w' ∧ (w'.heap[g]? = some (.cells C1.toArray 78 (0, 0)) ∧ w.grownBy w' (some g)) := fun W h1 h2 h3 h4 ty => by
    refine ⟨_, happ W h4 ty, setRow_heap W g _ _ 78 _ (by rw [h4]; exact hh), ?_⟩
    exact ⟨h1, h2, h3, by simp [World.setRow, h4], fun q hq hne => (setRow_other _ _ _ _ (fun e => hne (by rw [e]))).trans (by rw [h4])⟩
  have hP2 : ∀ W : World, W.heap[g]? = some (.cells C1.toArray 78 (0, 0)) → w.grownBy W (some g) → ∃ w', (∀ ty, (Builtin.clear_ #[75] ty #[.slice (some ⟨g, (n - 1) * 3, none⟩) 1 (cap - (n - 1))]).run Try.prog W = .ok (.tuple #[]) w') ∧ OwnH w' B (.slice (some ⟨g, 0, none⟩) (n - 1) cap) (l.eraseIdx i) ∧ w.grownBy w' (some g) := fun W hW hG => by
    refine ⟨_, fun ty => hclr W hW ty, ?_, grown_trans hG ⟨rfl, rfl, rfl, by simp [World.setRow], fun q hq hne => setRow_other _ _ _ _ (fun e => hne (by rw [e]))⟩⟩
    have h9 : (W.setRow g C2.toArray).heap[g]? = some (.cells C2.toArray 78 (0, 0)) := setRow_heap W g _ _ 78 _ hW
    rw [OwnH, herl]
    exact ⟨by rw [hlC_len, herl], Or.inr ⟨g, cap, _, rfl, hBg, h9, by omega, hcm, by simp [hC2l], by simpa using hC2t⟩⟩
  have HP := Lib.hid hP
  have HP2 := Lib.hid hP2
  obtain ⟨m, hm⟩ : ∃ m, m = n - 1 := ⟨_, rfl⟩
  rw [← hm] at HP HP2 hs4
  have hne : ((i : Int) == (i : Int) + 1) = false := by
    rw [beq_eq_false_iff_ne]
    omega
  have hmn : (m : Int) ≤ (n : Int) := by omega
  generalize l.eraseIdx i = R at HP2 ⊢
  clear hP hP2 hclr happ hC2t hC2l hC2 hC1t hC1l hC1 herl hti hdl hnews hdr ha3 hsz hel hcs hct hh hlen hn ho hi0 hz0 hz1 hz2 hm i0
  go_enter Try.func43, Try.ntmps43
  go_wp2
  go_region_law (refine step_roomH rfl (.tmp 22) (.tmp 25) rfl (.slice (some ⟨g, 0, none⟩) i cap) (.slice (some a3) (n - (i + 1)) c3) (.slice (some ⟨g, 0, none⟩) m cap) (fun w' => w'.heap[g]? = some (.cells C1.toArray 78 (0, 0)) ∧ w.grownBy w' (some g)) (by rfl) (by rfl) (HP.out w.drew rfl rfl rfl rfl _) ?_; rintro w5 ⟨h5, hg5⟩)
  obtain ⟨w6, hr6, ho6, hg6⟩ := HP2.out w5 h5 hg5
  clear h5 hg5
  have HO := Lib.hid ho6
  have HG := Lib.hid hg6
  clear ho6 hg6
  go_wp2
  go_ret
  exact ⟨_, rfl, HO.out, rfl, HG.out⟩
end Go.Proofs.Ythcjfjgaajjoaan
