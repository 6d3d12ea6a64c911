/- CONTRACT: spec.l1Bend: whatever the draw, a text of at most two bytes more. -/
import Derived.Test.YtiflpnmkclcimaeDraw
import Derived.Test.YtiflpnmkclcimaeSteps
namespace Go.Proofs.Ytiflpnmkclcimae
open Go.RowKit

/-- a slice of bytes at the head of a block from base on, that can be read and written -/
def Wr (w : World) (base : Nat) (v : Value) (xs : List Int) : Prop :=
  ∃ ao cap, v = .slice ao xs.length cap ∧ xs.length ≤ cap ∧ (0 < xs.length → ∃ g, ao = some ⟨g, 0, none⟩ ∧ base ≤ g ∧ g < w.heap.size ∧ ∀ j, j < xs.length → w.cell? ⟨g, j, none⟩ = some (.int .u8 (xs.getD j 0)) ∧ w.frozen? ⟨g, j, none⟩ = false)

theorem wr_owns {w : World} {base : Nat} {v : Value} {xs : List Int} (h : w.ownsRow base 5 1 v xs.length (cellsByteS xs)) : Wr w base v xs := by
  rcases h.2 with ⟨rfl, h0⟩ | ⟨g, cap, cur, rfl, hg, hh, hn, _⟩
  · exact ⟨none, 0, by rw [h0], by omega, fun hp => by omega⟩
  · exact ⟨_, cap, rfl, hn, fun hp => ⟨g, rfl, hg, (Array.getElem?_eq_some_iff.1 hh).1, fun j hj => ⟨(h.cellAt j (by omega)).trans (ints_get .u8 xs j hj), h.frozenAt j⟩⟩⟩

theorem wr_keep {w w' : World} {base : Nat} {v : Value} {xs : List Int} (h : Wr w base v xs) (hb : ∀ k, base ≤ k → k < w.heap.size → w'.heap[k]? = w.heap[k]?) (hs : w.heap.size ≤ w'.heap.size) : Wr w' base v xs := by
  obtain ⟨ao, cap, hv, hc, hx⟩ := h
  refine ⟨ao, cap, hv, hc, fun hp => ?_⟩
  obtain ⟨g, ha, hg, hgs, hcell⟩ := hx hp
  have e := hb g hg hgs
  exact ⟨g, ha, hg, by omega, fun j hj => ⟨(World.cell?_of_block (w := w) (a := ⟨g, j, none⟩) e).trans (hcell j hj).1, (World.frozen?_of_block (w := w) (a := ⟨g, j, none⟩) e).trans (hcell j hj).2⟩⟩

theorem wr_grown {w w' : World} {base cb : Nat} {v : Value} {xs : List Int} (h : Wr w base v xs) (hg : w.grownBy w' (some cb)) (hcb : cb < base) : Wr w' base v xs :=
  wr_keep h (fun k hk hks => hg.block k hks (by intro e; cases e; omega)) hg.size

theorem wr_rd {w : World} {base : Nat} {v : Value} {xs : List Int} (h : Wr w base v xs) : Rd w v (cellsByteS xs) := by
  have hla : (cellsByteS xs).length = xs.length := by simp
  obtain ⟨ao, cap, hv, hc, hx⟩ := h
  refine ⟨ao, cap, by rw [hla]; exact hv, by rw [hla]; exact hc, fun hne => ?_⟩
  have hp : 0 < xs.length := by
    cases xs with
    | nil => exact absurd rfl hne
    | cons x r => simp
  obtain ⟨g, ha, _, hgs, hcell⟩ := hx hp
  refine ⟨g, 0, ha, hgs, fun j hj => ?_⟩
  rw [hla] at hj
  rw [Nat.zero_add, (hcell j hj).1, ints_get .u8 xs j hj]

theorem wr_take {w : World} {base g cap : Nat} {xs : List Int} (k : Nat) (hk : k ≤ xs.length) (h : Wr w base (.slice (some ⟨g, 0, none⟩) xs.length cap) xs) : Wr w base (.slice (some ⟨g, 0, none⟩) k cap) (xs.take k) := by
  have hl : (xs.take k).length = k := by rw [List.length_take]; omega
  obtain ⟨ao, cap', hv, hc, hx⟩ := h
  simp only [Value.slice.injEq] at hv
  obtain ⟨rfl, _, rfl⟩ := hv
  refine ⟨_, cap, by rw [hl], by omega, fun hp => ?_⟩
  rw [hl] at hp
  obtain ⟨g', ha, hg, hgs, hcell⟩ := hx (by omega)
  refine ⟨g', ha, hg, hgs, fun j hj => ?_⟩
  rw [hl] at hj
  rw [take_getD xs k j hj]
  exact hcell j (by omega)

theorem str_wr {w : World} {base : Nat} {v : Value} {xs : List Int} (h : Wr w base v xs) (hz : Bytes xs) : (convert 22 9 v).run Try.prog w = .ok (.string (asB xs)) w := by
  obtain ⟨ao, cap, rfl, hc, hx⟩ := h
  by_cases hp : 0 < xs.length
  · obtain ⟨g, rfl, _, _, hcell⟩ := hx hp
    have hs := str_of w g 0 cap xs.length xs hz (Nat.le_refl _) (fun j hj => by rw [Nat.zero_add]; exact (hcell j hj).1)
    rwa [List.take_of_length_le (Nat.le_refl _)] at hs
  · obtain rfl : xs = [] := List.eq_nil_of_length_eq_zero (by omega)
    exact str_nil w ao cap

theorem slice_to (g n cap k : Nat) (hk : k ≤ n) (hc : n ≤ cap) (hp : 0 < n) (W : World) : (Instr.slice 22 (.slice (some ⟨g, 0, none⟩) n cap) none (some (.int .i64 (k : Int))) none).run Try.prog W = .ok (.slice (some ⟨g, 0, none⟩) k cap) W := by
  obtain ⟨i0, hi, hz0, hz1, hz2⟩ := info_parts Try.infoB
  have hel : Try.prog.elem 22 = 5 := by kernel_rfl
  have hsz : (sizeOf 5).run Try.prog W = .ok 1 W := by simp [sizeOf, typeInfo, hi, hz1]
  rw [run_slice_h W 22 _ n cap (by rw [hel]; exact Try.underlying22) .i64 _ (by omega) (by omega), hel, hsz]
  have hc0 : ¬ cap = 0 := by omega
  simp [Result.andThen, sliced, hc0]
  exact Addr.add_lit ..

theorem slice_on (g n cap p : Nat) (hp : p ≤ n) (hc : n ≤ cap) : ∃ a cap', n - p ≤ cap' ∧ (p < n → a = ⟨g, p, none⟩) ∧
    ∀ W : World, (Instr.slice 22 (.slice (some ⟨g, 0, none⟩) n cap) (some (.int .i64 (p : Int))) none none).run Try.prog W = .ok (.slice (some a) (n - p) cap') W := by
  obtain ⟨i0, hi, hz0, hz1, hz2⟩ := info_parts Try.infoB
  have hel : Try.prog.elem 22 = 5 := by kernel_rfl
  have hsz : ∀ W : World, (sizeOf 5).run Try.prog W = .ok 1 W := fun W => by simp [sizeOf, typeInfo, hi, hz1]
  by_cases hcp : cap = p
  · refine ⟨⟨g, 0, none⟩, cap - p, by omega, fun h => by omega, fun W => ?_⟩
    rw [run_slice_l W 22 _ n cap (by rw [hel]; exact Try.underlying22) .i64 _ (by omega) (by omega), hel, hsz]
    simp [Result.andThen, sliced, hcp]
  · refine ⟨⟨g, p, none⟩, cap - p, by omega, fun _ => rfl, fun W => ?_⟩
    rw [run_slice_l W 22 _ n cap (by rw [hel]; exact Try.underlying22) .i64 _ (by omega) (by omega), hel, hsz]
    simp [Result.andThen, sliced, hcp]
    rw [Addr.add_lit, Nat.zero_add]

/-- the cells of a cut -/
theorem cut_cells {w : World} {g p n : Nat} {a : Addr} {xs : List Int} (hn : xs.length = n) (ha : p < n → a = ⟨g, p, none⟩) (hc : ∀ j, j < n → w.cell? ⟨g, j, none⟩ = some (.int .u8 (xs.getD j 0))) :
    ∀ j u, (cellsByteS (xs.drop p))[j]? = some u → w.cell? (a.add j) = some u := by
  intro j u hu
  have hj : j < n - p := by
    have := (List.getElem?_eq_some_iff.1 hu).1
    simpa [hn] using this
  rw [ha (by omega), Addr.add_lit, hc (p + j) (by omega)]
  rw [← hu, ints_get .u8 _ j (by rw [List.length_drop]; omega)]
  simp [List.getD]
theorem take_cells {w : World} {g k n : Nat} {xs : List Int} (hn : xs.length = n) (hk : k ≤ n) (hc : ∀ j, j < n → w.cell? ⟨g, j, none⟩ = some (.int .u8 (xs.getD j 0))) :
    ∀ j u, (cellsByteS (xs.take k))[j]? = some u → w.cell? ((⟨g, 0, none⟩ : Addr).add j) = some u := by
  intro j u hu
  have hj : j < k := by
    have := (List.getElem?_eq_some_iff.1 hu).1
    rw [cellsByteS, List.length_map, List.length_take] at this
    omega
  rw [Addr.add_lit, Nat.zero_add, hc j (by omega), ← hu, ints_get .u8 _ j (by rw [List.length_take]; omega), take_getD _ _ _ hj]

theorem wr_conv {w : World} {s : ByteArray} {cap : Nat} (hcap : s.size ≤ cap) (hsz : (bytesRow s cap).size = cap) :
    Wr (w.drew.alloc (.cells (bytesRow s cap) 5 ((bytesRow s cap).size, (bytesRow s cap).size + 1))) w.heap.size (.slice (some ⟨w.heap.size, 0, none⟩) s.size cap) (byts s) := by
  have hl := byts_len s
  refine ⟨_, cap, by rw [hl], by rw [hl]; exact hcap, fun hp => ⟨w.heap.size, rfl, Nat.le_refl _, by simp, fun j hj => ⟨?_, ?_⟩⟩⟩
  · rw [hl] at hj
    exact conv_cells w s cap 5 _ j hj
  · rw [hl] at hj
    have h := World.frozen?_alloc_mark w.drew (bytesRow s cap) 5 (bytesRow s cap).size ((bytesRow s cap).size + 1) j
    rw [show w.drew.heap.size = w.heap.size from rfl] at h
    rw [h, decide_eq_false (by omega)]
    rfl
theorem bytesRow_size (s : ByteArray) (cap : Nat) (h : s.size ≤ cap) : (bytesRow s cap).size = cap := by
  have e : s.data.size = s.size := rfl
  simp [bytesRow, e]; omega

/-- one step of a draw's own building: the row of an earlier block, the cursor and the rest stay -/
theorem bend_step {w w0 w5 : World} {g cb n B0 : Nat} {row : Option Nat} {v : Value} {bs xs : List Int} (hg5 : w0.grownBy w5 row) (hgs : g < w0.heap.size) (hrow : ∀ i, row = some i → B0 ≤ i) (hgB : g < B0) (hcb : cb < w.heap.size) (_hB0 : w.heap.size ≤ B0) (_hgb : w.heap.size ≤ g)
    (hc : ∀ j, j < n → w0.cell? ⟨g, j, none⟩ = some (.int .u8 (xs.getD j 0))) (hst : St w0 cb v bs) (hg : w.grownBy w0 (some cb)) :
    Hid (∀ j, j < n → w5.cell? ⟨g, j, none⟩ = some (.int .u8 (xs.getD j 0))) ∧ Hid (St w5 cb v bs) ∧ w.grownBy w5 (some cb) := by
  have hcb0 := st_lt hst
  refine ⟨fun j hj => (World.cell?_of_block (w := w0) (hg5.block g hgs (fun e => by have := hrow g e.symm; omega))).trans (hc j hj), ?_, grown_own hg hg5 (fun i h => by have := hrow i h; omega)⟩
  exact st_below hst ⟨hg5.os, hg5.tape, hg5.output, hg5.size, fun i hi => hg5.block i (by omega) (fun e => by have := hrow i e.symm; omega)⟩


end Go.Proofs.Ytiflpnmkclcimae
