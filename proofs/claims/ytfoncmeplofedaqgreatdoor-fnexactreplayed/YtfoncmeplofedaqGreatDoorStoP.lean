/- CONTRACTS: the specification's Get, Drop, l7Put. -/
import Derived.Test.YtfoncmeplofedaqGreatDoorBuna
import Derived.Test.YtfoncmeplofedaqGreatDoorBunb
import Derived.Test.YtfoncmeplofedaqGreatDoorIntsI
namespace Go.Proofs.YtfoncmeplofedaqGreatDoor
open Go.RowKit
set_option linter.unusedVariables false
theorem find_cases (l : List Bl) (d : Int) : (∃ k, k < l.length ∧ findI l d = (k : Int) ∧ findB l d = some (l.getD k bl0) ∧ (l.getD k bl0).1 = d) ∨ (findI l d = -1 ∧ findB l d = none ∧ ∀ p ∈ l, p.1 ≠ d) := by
  cases h : idxB l d with
  | none =>
    right
    have hn : ∀ p ∈ l, p.1 ≠ d := by
      unfold idxB at h
      rw [List.findIdx?_eq_none_iff] at h
      exact fun p hp e => by
        have := h p hp
        simp [e] at this
    exact ⟨by unfold findI; rw [h], findB_none.2 hn, hn⟩
  | some k =>
    left
    have h2 := h
    unfold idxB at h2
    rw [List.findIdx?_eq_some_iff_getElem] at h2
    obtain ⟨hk, h3, h4⟩ := h2
    have e : (l.getD k bl0).1 = d := by rw [getD_at hk]; exact beq_iff_eq.1 h3
    refine ⟨k, hk, by unfold findI; rw [h], (idxB_is hk e fun j hj => ?_).2, e⟩
    rw [getD_at (by omega)]
    have := h4 j hj
    simpa using this
theorem rd_shape {w : World} {v : Value} {xs : List Value} (h : Rd w v xs) : ∃ ao cap, v = .slice ao xs.length cap := by
  obtain ⟨ao, cap, hv, _⟩ := h
  exact ⟨ao, cap, hv⟩
def getV (r : Option ByteArray) : Value := match r with
  | some t => .tuple #[.string t, .bool true]
  | none => .tuple #[.string ⟨#[]⟩, .bool false]
theorem filter_snoc {α} (p : α → Bool) (l : List α) (z : α) (k : Nat) (hk : k < l.length) : (l.take (k + 1)).filter p = (l.take k).filter p ++ (if p (l.getD k z) then [l.getD k z] else []) := by
  have e : l.getD k z = l[k] := by simp [List.getD, hk]
  rw [List.take_succ_eq_append_getElem hk, List.filter_append, e]
  congr 1
  cases h : p l[k] <;> simp [h]
/-- 'list[:k]' -/
theorem slB_to {w : World} {v : Value} {l : List Bl} (h : RdB w v l) (k : Nat) (hk : k ≤ l.length) : ∃ u, (∀ w', Below w.heap.size w w' → RdB w' u (l.take k)) ∧ ∀ W : World, (Instr.slice 62 v none (some (.int .i64 (k : Int))) none).run Tryz.prog W = .ok u W := by
  obtain ⟨ao, cap, rfl, hcap, hx⟩ := h
  obtain ⟨i0, hi, hz0, hz1, hz2⟩ := info_parts Tryz.infoBl
  have hel : Tryz.prog.elem 62 = 67 := by kernel_rfl
  have hsz : ∀ W : World, (sizeOf 67).run Tryz.prog W = .ok 2 W := fun W => by simp [sizeOf, typeInfo, hi, hz1]
  refine ⟨.slice ao k cap, fun w' hb => rdB_take (rdB_below ⟨ao, cap, rfl, hcap, hx⟩ hb) k hk, fun W => ?_⟩
  rw [run_slice_h W 62 _ _ cap (by rw [hel]; exact Tryz.underlying62) .i64 _ (by omega) (by omega), hel, hsz]
  by_cases hc0 : cap = 0
  · simp [Result.andThen, sliced, hc0]
  · cases ao with
    | none => simp [Result.andThen, sliced]
    | some a => simp [Result.andThen, sliced, hc0, Addr.add]
/-- 'list[k:]' -/
theorem slB_from {w : World} {v : Value} {l : List Bl} (h : RdB w v l) (k : Nat) (hk : k ≤ l.length) : ∃ u, (∀ w', Below w.heap.size w w' → RdB w' u (l.drop k)) ∧ ∀ W : World, (Instr.slice 62 v (some (.int .i64 (k : Int))) none none).run Tryz.prog W = .ok u W := by
  obtain ⟨ao, cap, rfl, hcap, hx⟩ := h
  obtain ⟨i0, hi, hz0, hz1, hz2⟩ := info_parts Tryz.infoBl
  have hel : Tryz.prog.elem 62 = 67 := by kernel_rfl
  have hsz : ∀ W : World, (sizeOf 67).run Tryz.prog W = .ok 2 W := fun W => by simp [sizeOf, typeInfo, hi, hz1]
  have hld : (l.drop k).length = l.length - k := List.length_drop
  refine ⟨sliced ao k l.length cap 2, fun w' hb => ?_, fun W => ?_⟩
  · unfold sliced
    refine ⟨_, cap - k, by rw [hld], by omega, fun hne => ?_⟩
    have hlt : k < l.length := by
      rcases Nat.lt_or_ge k l.length with g | g
      · exact g
      · exact absurd (List.drop_of_length_le g) hne
    obtain ⟨b, off, rfl, hbl, hc⟩ := hx (fun h0 => by subst h0; exact absurd hlt (Nat.not_lt_zero _))
    have hr : RdB w' (.slice (some ⟨b, off + k * 2, none⟩) (l.length - k) (cap - k)) (l.drop k) := rdB_drop (rdB_below ⟨_, cap, rfl, hcap, fun _ => ⟨b, off, rfl, hbl, hc⟩⟩ hb) k (cap - k) hk (by omega)
    obtain ⟨ao2, cap2, hv, _, hx2⟩ := hr
    simp only [Value.slice.injEq] at hv
    obtain ⟨rfl, _, _⟩ := hv
    have e : (if cap = k then some (⟨b, off, none⟩ : Addr) else (some (⟨b, off, none⟩ : Addr)).map (·.add (k * 2))) = some ⟨b, off + k * 2, none⟩ := by
      rw [if_neg (by omega)]
      exact congrArg some (Addr.add_lit ..)
    rw [e]
    exact hx2 hne
  · rw [run_slice_l W 62 _ _ cap (by rw [hel]; exact Tryz.underlying62) .i64 _ (by omega) (by omega), hel, hsz]
    simp [Result.andThen]
theorem ins_at {l : List Bl} {x : Bl} {k : Nat} (hr : l.Pairwise (fun p q => p.1 < q.1)) (hn : ∀ p ∈ l, p.1 ≠ x.1) (hk : k ≤ l.length) (h1 : ∀ j, j < k → (l.getD j bl0).1 < x.1) (h2 : k < l.length → ¬ (l.getD k bl0).1 < x.1) : insB l x = l.take k ++ [x] ++ l.drop k := by
  have e : l = l.take k ++ l.drop k := (List.take_append_drop k l).symm
  have ht : ∀ p ∈ l.take k, p.1 < x.1 := fun p hp => by
    obtain ⟨j, hj, rfl⟩ := List.getElem_of_mem hp
    rw [List.length_take] at hj
    have := h1 j (by omega)
    rw [getD_at (by omega)] at this
    rw [List.getElem_take]
    exact this
  have hd : ∀ p ∈ l.drop k, x.1 < p.1 := fun p hp => by
    obtain ⟨j, hj, rfl⟩ := List.getElem_of_mem hp
    rw [List.length_drop] at hj
    have h3 := h2 (by omega)
    rw [getD_at (by omega)] at h3
    rw [List.getElem_drop]
    have h4 := hn l[k + j] (List.getElem_mem _)
    rcases Nat.eq_zero_or_pos j with h0 | h0
    · subst h0
      simp only [Nat.add_zero] at h4 ⊢
      omega
    · have h5 := List.pairwise_iff_getElem.1 hr k (k + j) (by omega) (by omega) (by omega)
      omega
  unfold insB
  have a1 : l.filter (fun q => decide (q.1 < x.1)) = l.take k := by
    conv => lhs; rw [e]
    rw [List.filter_append, List.filter_eq_self.2 (fun p hp => decide_eq_true (ht p hp)), List.filter_eq_nil_iff.2 (fun p hp => by have := hd p hp; simp; omega), List.append_nil]
  have a2 : l.filter (fun q => decide (x.1 < q.1)) = l.drop k := by
    conv => lhs; rw [e]
    rw [List.filter_append, List.filter_eq_self.2 (fun p hp => decide_eq_true (hd p hp)), List.filter_eq_nil_iff.2 (fun p hp => by have := ht p hp; simp; omega), List.nil_append]
  rw [a1, a2, List.append_assoc]
  rfl
end Go.Proofs.YtfoncmeplofedaqGreatDoor
