/- WHAT THE RUN DOES at the appends and copies of rows of blobs that slices.Insert makes. -/
import Derived.Test.YtfoncmeplofedaeRowz
namespace Go.Proofs.Ytfoncmeplofedae
open Go.RowKit
set_option linter.unusedVariables false
/-- 'append' of a row of blobs under two names of its type -/
theorem append_names (w : World) (ty : TypeId) (ao bo : Option Addr) (n c m d : Nat) : (Builtin.append_ #[74, 40] ty #[.slice ao n c, .slice bo m d]).run Try.prog w = (Builtin.append_ #[74, 74] ty #[.slice ao n c, .slice bo m d]).run Try.prog w := by
  obtain ⟨i0, hi, hz0, hz1, hz2⟩ := info_parts Try.infoBl
  simp [Builtin.append_, run_underlying Try.underlying74, run_underlying Try.underlying40, sizeOf, typeInfo, hi, hz1]
theorem append_one (w : World) (ty : TypeId) (B g n h : Nat) (l : List Bl) (x : Bl) (hl : l.length = n) (hown : w.ownsRow B 76 2 (.slice (some ⟨g, 0, none⟩) n n) n (blC l)) (hx : ∀ j u, (blC [x])[j]? = some u → w.cell? ((⟨h, 0, none⟩ : Addr).add j) = some u) (hn : n ≤ 1048576) (hB : B ≤ w.heap.size) :
    ∃ v' w', (Builtin.append_ #[74, 40] ty #[.slice (some ⟨g, 0, none⟩) n n, .slice (some ⟨h, 0, none⟩) 1 1]).run Try.prog w = .ok v' w' ∧ w'.ownsRow B 76 2 v' (n + 1) (blC (l ++ [x])) ∧ w.grownBy w' (some g) := by
  obtain ⟨i0, hi, hz0, hz1, hz2⟩ := info_parts Try.infoBl
  obtain ⟨v', w', h1, h2, h3, _⟩ := run_append_own (P := Try.prog) w B 74 ty 76 i0 (.agg #[.int .i64 0, .string ⟨#[]⟩]) 2 24 Try.underlying74 hi hz0 hz1 hz2 rfl (by decide) _ n (blC l) hown ⟨h, 0, none⟩ 1 1 (blC [x]) (blC_len [x]) hx (blC_oneCell [x]) (by unfold maxLen; omega) (by omega) hB
  rw [← blC_append] at h2
  exact ⟨v', w', (append_names w ty _ _ _ _ _ _).trans h1, h2, h3⟩
/-- 'append(s[:k], make(S, z)...)' behind the end of its room -/
theorem append_zeros (w : World) (ty : TypeId) (g n k z : Nat) (l : List Bl) (hl : l.length = n) (hw : w.heap[g]? = some (.cells (blC l).toArray 76 (0, 0))) (hk : k ≤ n) (hz : k + z = n + 1) (hn : n ≤ 1048576) :
    ∃ C w' M, n + 1 ≤ C ∧ (Builtin.append_ #[74, 3] ty #[.slice (some ⟨g, 0, none⟩) k n, .int .i64 (z : Int)]).run Try.prog w = .ok (.slice (some ⟨w.heap.size, 0, none⟩) (n + 1) C) w' ∧ C ≤ maxLen ∧ M.length = C ∧ M.take k = l.take k ∧ w'.heap[w.heap.size]? = some (.cells (blC M).toArray 76 (0, 0)) ∧ Below w.heap.size w w' ∧ w'.heap.size = w.heap.size + 1 := by
  obtain ⟨i0, hi, hz0, hz1, hz2⟩ := info_parts Try.infoBl
  have hge := grownCap_ge w (n + 1) n 76
  have hcm := grownCap_le_maxLen w (n + 1) n 76 (by unfold maxLen; omega)
  have hcells : ∀ j u, (blC (l.take k))[j]? = some u → w.cell? ((⟨g, 0, none⟩ : Addr).add j) = some u := fun j u hu => by
    have hj := (List.getElem?_eq_some_iff.1 hu).1
    rw [blC_len, List.length_take] at hj
    rw [Addr.add_lit, Nat.zero_add, cell_of_row w g j _ _ (0, 0) hw]
    have e : blC l = blC (l.take k) ++ blC (l.drop k) := by rw [← blC_append, List.take_append_drop]
    rw [List.getElem?_toArray, e, List.getElem?_append_left (by rw [blC_len, List.length_take]; omega)]
    exact hu
  have hf := run_firstCells_some (P := Try.prog) w.drew i0.size k ⟨g, 0, none⟩ k n (blC (l.take k)) (by rw [blC_len, List.length_take, hz1]; rw [Nat.min_eq_left (by omega)]) hcells
  have hwz : IntKind.i64.wrap (z : Int) = (z : Int) := IntWalk.i64_in _ ⟨by omega, by omega⟩
  have hzpos : z ≠ 0 := by omega
  have h1 : ¬ ((z : Int) < 0) := by omega
  have h2 : ¬ (281474976710656 < (z : Int) * 24) := by omega
  have h3 : ¬ (k + z ≤ n) := by omega
  have h4 : ¬ (9223372036854775807 < ((k + z : Nat) : Int)) := by omega
  have h4' : ¬ (9223372036854775807 < (k : Int) + (z : Int)) := by omega
  have h5 : ¬ (281474976710656 < Builtin.nextslicecap (k + z) n * 24) := by
    have := nextslicecap_le (need := k + z) (old := n) (by omega)
    omega
  have h6 : ¬ (z * 2 = 0) := by omega
  refine ⟨grownCap w (n + 1) n 76, w.drew.alloc (.cells ((blC (l.take k)).toArray ++ Builtin.zeroCells (Value.agg #[.int .i64 0, .string ⟨#[]⟩]).cells z ++ Builtin.zeroCells (Value.agg #[.int .i64 0, .string ⟨#[]⟩]).cells (grownCap w (n + 1) n 76 - (n + 1))) 76), l.take k ++ List.replicate z blZ ++ List.replicate (grownCap w (n + 1) n 76 - (n + 1)) blZ, hge, ?_, hcm, by simp only [List.length_append, List.length_take, List.length_replicate]; omega, ?_, ?_, (Below.refl _ w).drew.alloc (Nat.le_refl _) _, by rw [World.size_alloc]; rfl⟩
  · rw [← hz]
    rw [hz1] at hf
    simp [Builtin.append_, run_underlying Try.underlying74, run_underlying Try.underlying3, sizeOf, typeInfo, zeroValue, hi, hz0, hz1, hz2, asInt, asIntOf, hwz, h1, h2, h3, h4', h5, h6, hf, Question.forced, newRow, grownCap]
  · rw [List.append_assoc, List.take_append_of_le_length (by rw [List.length_take]; omega), List.take_of_length_le (by rw [List.length_take]; omega)]
  · have e := heap_alloc_new w.drew (.cells ((blC (l.take k)).toArray ++ Builtin.zeroCells (Value.agg #[.int .i64 0, .string ⟨#[]⟩]).cells z ++ Builtin.zeroCells (Value.agg #[.int .i64 0, .string ⟨#[]⟩]).cells (grownCap w (n + 1) n 76 - (n + 1))) 76)
    refine e.trans ?_
    have e2 : (blC (l.take k)).toArray ++ Builtin.zeroCells (Value.agg #[.int .i64 0, .string ⟨#[]⟩]).cells z ++ Builtin.zeroCells (Value.agg #[.int .i64 0, .string ⟨#[]⟩]).cells (grownCap w (n + 1) n 76 - (n + 1)) = (blC (l.take k ++ List.replicate z blZ ++ List.replicate (grownCap w (n + 1) n 76 - (n + 1)) blZ)).toArray := by
      apply Array.toList_inj.1
      rw [Array.toList_append, Array.toList_append, replZ, replZ, blC_append, blC_append]
    rw [e2]
/-- 'copy' of blobs into a row -/
theorem copy_blobs (w : World) (sT ty : TypeId) (g k dLen dCap : Nat) (a : Addr) (sLen sCap : Nat) (M ys : List Bl) (hw : w.heap[g]? = some (.cells (blC M).toArray 76 (0, 0))) (hn : ys.length = Nat.min sLen dLen) (hsrc : ∀ j u, (blC ys)[j]? = some u → w.cell? (a.add j) = some u) (hfit : k + ys.length ≤ M.length) :
    (Builtin.copy_ #[74, sT] ty #[.slice (some ⟨g, k * 2, none⟩) dLen dCap, .slice (some a) sLen sCap]).run Try.prog w =
      .ok (goInt ys.length) (w.setRow g (blC (M.take k ++ ys ++ M.drop (k + ys.length))).toArray) := by
  obtain ⟨i0, hi, hz0, hz1, hz2⟩ := info_parts Try.infoBl
  have hl := run_loadCells_list (P := Try.prog) w a (blC ys) hsrc
  have hst := run_storeCells_at Try.prog g (k * 2) 76 (blC ys) 0 _ w hw (by simp [blC_len]; omega) (blC_oneCell _)
  have e : List.take (k * 2 + 0) (blC M).toArray.toList ++ blC ys ++ List.drop (k * 2 + 0 + (blC ys).length) (blC M).toArray.toList = blC (M.take k ++ ys ++ M.drop (k + ys.length)) := by
    rw [blC_append, blC_append, List.toList_toArray, Nat.add_zero]
    have e1 : (blC M).take (k * 2) = blC (M.take k) := by
      have e : blC M = blC (M.take k) ++ blC (M.drop k) := by rw [← blC_append, List.take_append_drop]
      rw [e, List.take_append_of_le_length (by rw [blC_len, List.length_take]; omega), List.take_of_length_le (by rw [blC_len, List.length_take]; omega)]
    have e2 : (blC M).drop (k * 2 + (blC ys).length) = blC (M.drop (k + ys.length)) := by
      have e : blC M = blC (M.take (k + ys.length)) ++ blC (M.drop (k + ys.length)) := by rw [← blC_append, List.take_append_drop]
      have hle : (blC (M.take (k + ys.length))).length = k * 2 + (blC ys).length := by rw [blC_len, blC_len, List.length_take, Nat.min_eq_left hfit]; omega
      rw [e, ← hle, List.drop_left]
    rw [e1, e2]
  rw [e] at hst
  have hcl : (blC ys).length = Nat.min sLen dLen * 2 := by rw [blC_len, hn]
  rw [hcl] at hl
  simp [Builtin.copy_, run_underlying Try.underlying74, Builtin.lenOf, Builtin.firstCells, sizeOf, typeInfo, hi, hz1, hl, hst, hn]
/-- 's[k:]' -/
theorem slN_from (W : World) (g n C k : Nat) (hk : k < C) (hkn : k ≤ n) (hn : n ≤ C) (hC : C ≤ maxLen) : (Instr.slice 74 (.slice (some ⟨g, 0, none⟩) n C) (some (.int .i64 (k : Int))) none none).run Try.prog W = .ok (.slice (some ⟨g, k * 2, none⟩) (n - k) (C - k)) W := by
  obtain ⟨i0, hi, hz0, hz1, hz2⟩ := info_parts Try.infoBl
  have hel : Try.prog.elem 74 = 76 := by kernel_rfl
  have hsz : ∀ W : World, (sizeOf 76).run Try.prog W = .ok 2 W := fun W => by simp [sizeOf, typeInfo, hi, hz1]
  rw [run_slice_l W 74 _ _ C (by rw [hel]; exact Try.underlying74) .i64 _ (by omega) (by omega), hel, hsz]
  have e : sliced (some (⟨g, 0, none⟩ : Addr)) k n C 2 = .slice (some ⟨g, k * 2, none⟩) (n - k) (C - k) := by
    unfold sliced
    rw [if_neg (by omega)]
    simp only [Option.map_some, Addr.add_lit, Nat.zero_add]
  rw [← e]
  simp [Result.andThen]
end Go.Proofs.Ytfoncmeplofedae
