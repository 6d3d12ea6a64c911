/- A ROW OF BLOBS AT ITS BLOCK: what its block holds, its parts, its tail cleared. -/
import Derived.Test.YtfoncmeplofedaeBlW
import Derived.Test.YtfoncmeplofedaeBlobA
namespace Go.Proofs.Ytfoncmeplofedae
open Go.RowKit
set_option linter.unusedVariables false
theorem heap_of_owns {w : World} {B g n : Nat} {L : List Bl} (h : w.ownsRow B 76 2 (.slice (some ⟨g, 0, none⟩) n n) n (blC L)) : w.heap[g]? = some (.cells (blC L).toArray 76 (0, 0)) := by
  rcases h.2 with ⟨h0, _⟩ | ⟨g', cap, cur, hv, hg, hh, hn, hm, hs, ht⟩
  · cases h0
  · simp only [Value.slice.injEq, Option.some.injEq, Addr.mk.injEq] at hv
    obtain ⟨⟨rfl, _, _⟩, _, rfl⟩ := hv
    have e : cur.toList = blC L := by rw [← ht, List.take_of_length_le (by rw [Array.length_toList]; omega)]
    rw [hh, ← e]
theorem owns_of_heap {w : World} {B g n cap : Nat} {L : List Bl} (hg : B ≤ g) (hn : n ≤ cap) (hc : cap ≤ 1048576) (hL : L.length = cap) (h : w.heap[g]? = some (.cells (blC L).toArray 76 (0, 0))) : w.ownsRow B 76 2 (.slice (some ⟨g, 0, none⟩) n cap) n (blC (L.take n)) := by
  refine ⟨by rw [blC_len, List.length_take]; rw [Nat.min_eq_left (by omega)], Or.inr ⟨g, cap, _, rfl, hg, h, hn, by unfold maxLen; omega, by simp [blC_len, hL], ?_⟩⟩
  have e : blC L = blC (L.take n) ++ blC (L.drop n) := by rw [← blC_append, List.take_append_drop]
  show (blC L).take (n * 2) = _
  rw [e, List.take_append_of_le_length (by rw [blC_len, List.length_take]; omega), List.take_of_length_le (by rw [blC_len, List.length_take]; omega)]
theorem replZ (n : Nat) : (Builtin.zeroCells (Value.agg #[.int .i64 0, .string ⟨#[]⟩]).cells n).toList = blC (List.replicate n blZ) := by
  have e := made_blobs n
  rw [← e]
  simp [Builtin.zeroCells, madeCells, Value.cells]
theorem slN_to (W : World) (g n k : Nat) (hk : k ≤ n) (hn : n ≤ 1048576) : (Instr.slice 74 (.slice (some ⟨g, 0, none⟩) n n) none (some (.int .i64 (k : Int))) none).run Try.prog W = .ok (.slice (some ⟨g, 0, none⟩) k n) W := by
  obtain ⟨i0, hi, hz0, hz1, hz2⟩ := info_parts Try.infoBl
  have hel : Try.prog.elem 74 = 76 := by kernel_rfl
  have hsz : ∀ W : World, (sizeOf 76).run Try.prog W = .ok 2 W := fun W => by simp [sizeOf, typeInfo, hi, hz1]
  rw [run_slice_h W 74 _ _ n (by rw [hel]; exact Try.underlying74) .i64 _ (by omega) (by omega), hel, hsz]
  by_cases hc0 : n = 0
  · simp [Result.andThen, sliced, hc0]
  · simp [Result.andThen, sliced, hc0, Addr.add]
theorem clear_from (w : World) (g n k : Nat) (L : List Bl) (hL : L.length = n) (hk : k ≤ n) (hn : n ≤ 1048576) (hw : w.heap[g]? = some (.cells (blC L).toArray 76 (0, 0))) :
    ∃ u, (∀ W, (Instr.slice 74 (.slice (some ⟨g, 0, none⟩) n n) (some (.int .i64 (k : Int))) none none).run Try.prog W = .ok u W) ∧ ∃ w' M, (∀ ty, (Builtin.clear_ #[74] ty #[u]).run Try.prog w = .ok (.tuple #[]) w') ∧ M.length = n ∧ M.take k = L.take k ∧ w'.heap[g]? = some (.cells (blC M).toArray 76 (0, 0)) ∧ w.grownBy w' (some g) := by
  obtain ⟨i0, hi, hz0, hz1, hz2⟩ := info_parts Try.infoBl
  have hel : Try.prog.elem 74 = 76 := by kernel_rfl
  have hsz : ∀ W : World, (sizeOf 76).run Try.prog W = .ok 2 W := fun W => by simp [sizeOf, typeInfo, hi, hz1]
  refine ⟨sliced (some ⟨g, 0, none⟩) k n n 2, fun W => ?_, ?_⟩
  · rw [run_slice_l W 74 _ _ n (by rw [hel]; exact Try.underlying74) .i64 _ (by omega) (by omega), hel, hsz]
    simp [Result.andThen]
  rcases Nat.lt_or_ge k n with h | h
  · have e : sliced (some (⟨g, 0, none⟩ : Addr)) k n n 2 = .slice (some ⟨g, k * 2, none⟩) (n - k) (n - k) := by
      unfold sliced
      rw [if_neg (by omega)]
      simp only [Option.map_some, Addr.add_lit, Nat.zero_add]
    rw [e]
    have hM : List.take (k * 2 + 0) (blC L).toArray.toList ++ blC (List.replicate (n - k) blZ) ++ List.drop (k * 2 + 0 + (blC (List.replicate (n - k) blZ)).length) (blC L).toArray.toList = blC (L.take k ++ List.replicate (n - k) blZ) := by
      rw [blC_append, List.toList_toArray, Nat.add_zero]
      have e : blC L = blC (L.take k) ++ blC (L.drop k) := by rw [← blC_append, List.take_append_drop]
      have e1 : (blC L).take (k * 2) = blC (L.take k) := by rw [e, List.take_append_of_le_length (by rw [blC_len, List.length_take]; omega), List.take_of_length_le (by rw [blC_len, List.length_take]; omega)]
      rw [e1, List.drop_of_length_le (by rw [blC_len, blC_len, List.length_replicate]; omega), List.append_nil]
    have hst := run_storeCells_at Try.prog g (k * 2) 76 (blC (List.replicate (n - k) blZ)) 0 _ w hw (by simp [blC_len]; omega) (blC_oneCell _)
    rw [hM] at hst
    have hZ : (zeroValue 76).run Try.prog w = .ok (.agg #[.int .i64 0, .string ⟨#[]⟩]) w := by kernel_rfl
    obtain ⟨m, hm⟩ : ∃ m, n - k = m + 1 := ⟨n - k - 1, by omega⟩
    have hzc := replZ (n - k)
    refine ⟨w.setRow g (blC (L.take k ++ List.replicate (n - k) blZ)).toArray, L.take k ++ List.replicate (n - k) blZ, fun ty => ?_, by rw [List.length_append, List.length_take, List.length_replicate]; omega, by rw [List.take_append_of_le_length (by rw [List.length_take]; omega), List.take_of_length_le (by rw [List.length_take]; omega)], setRow_heap w g _ _ 76 _ hw, ?_⟩
    · rw [hm] at hst hzc ⊢
      simp [Builtin.clear_, run_underlying Try.underlying74, hZ, hzc, hst]
    · exact ⟨rfl, rfl, rfl, by simp [World.setRow], fun q hq hne => setRow_other _ _ _ _ (fun e => hne (by rw [e]))⟩
  · obtain rfl : k = n := by omega
    have e : sliced (some (⟨g, 0, none⟩ : Addr)) k k k 2 = .slice (some ⟨g, 0, none⟩) 0 0 := by
      unfold sliced
      rw [if_pos rfl, Nat.sub_self]
    rw [e]
    exact ⟨w, L, fun ty => by simp [Builtin.clear_, run_underlying Try.underlying74], hL, rfl, hw, World.grownBy.refl _ _⟩
end Go.Proofs.Ytfoncmeplofedae
