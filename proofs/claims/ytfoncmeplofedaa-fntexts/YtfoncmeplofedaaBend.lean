/- CONTRACT: spec.l1Bend: whatever the draw, a text of at most two bytes more. -/
import Derived.Test.YtfoncmeplofedaaDraw
import Derived.Test.YtfoncmeplofedaaSteps
namespace Go.Proofs.Ytfoncmeplofedaa
open Go.RowKit

/-- a slice of bytes at the head of a block from base on, that can be read and written -/
def Wr (w : World) (base : Nat) (v : Value) (xs : List Int) : Prop :=
  ∃ ao cap, v = .slice ao xs.length cap ∧ xs.length ≤ cap ∧ (0 < xs.length → ∃ g, ao = some ⟨g, 0, none⟩ ∧ base ≤ g ∧ g < w.heap.size ∧ ∀ j, j < xs.length → w.cell? ⟨g, j, none⟩ = some (.int .u8 (xs.getD j 0)) ∧ w.frozen? ⟨g, j, none⟩ = false)

theorem wr_owns {w : World} {base : Nat} {v : Value} {xs : List Int} (h : w.ownsRow base 5 1 v xs.length (cellsByteS xs)) : Wr w base v xs := by
  rcases h.2 with ⟨rfl, h0⟩ | ⟨g, cap, cur, rfl, hg, hh, hn, _⟩
  · exact ⟨none, 0, by rw [h0], by omega, fun hp => by omega⟩
  · exact ⟨_, cap, rfl, hn, fun hp => ⟨g, rfl, hg, (Array.getElem?_eq_some_iff.1 hh).1, fun j hj => ⟨(h.cellAt j (by omega)).trans (ints_get .u8 xs j hj), h.frozenAt j⟩⟩⟩

theorem wr_keep {w w' : World} {base : Nat} {v : Value} {xs : List Int} (h : Wr w base v xs) (hb : ∀ k, base ≤ k → k < w.heap.size → w'.heap[k]? = w.heap[k]?) (hs : w.heap.size ≤ w'.heap.size) : Wr w' base v xs := by
  obtain ⟨ao, cap, hv, hc, hx⟩ := h
  refine ⟨ao, cap, hv, hc, fun hp => ?_⟩
  obtain ⟨g, ha, hg, hgs, hcell⟩ := hx hp
  have e := hb g hg hgs
  exact ⟨g, ha, hg, by omega, fun j hj => ⟨(World.cell?_of_block (w := w) (a := ⟨g, j, none⟩) e).trans (hcell j hj).1, (World.frozen?_of_block (w := w) (a := ⟨g, j, none⟩) e).trans (hcell j hj).2⟩⟩

theorem wr_grown {w w' : World} {base cb : Nat} {v : Value} {xs : List Int} (h : Wr w base v xs) (hg : w.grownBy w' (some cb)) (hcb : cb < base) : Wr w' base v xs :=
  wr_keep h (fun k hk hks => hg.block k hks (by intro e; cases e; omega)) hg.size

theorem wr_rd {w : World} {base : Nat} {v : Value} {xs : List Int} (h : Wr w base v xs) : Rd w v (cellsByteS xs) := by
  have hla : (cellsByteS xs).length = xs.length := by simp
  obtain ⟨ao, cap, hv, hc, hx⟩ := h
  refine ⟨ao, cap, by rw [hla]; exact hv, by rw [hla]; exact hc, fun hne => ?_⟩
  have hp : 0 < xs.length := by
    cases xs with
    | nil => exact absurd rfl hne
    | cons x r => simp
  obtain ⟨g, ha, _, hgs, hcell⟩ := hx hp
  refine ⟨g, 0, ha, hgs, fun j hj => ?_⟩
  rw [hla] at hj
  rw [Nat.zero_add, (hcell j hj).1, ints_get .u8 xs j hj]

theorem wr_take {w : World} {base g cap : Nat} {xs : List Int} (k : Nat) (hk : k ≤ xs.length) (h : Wr w base (.slice (some ⟨g, 0, none⟩) xs.length cap) xs) : Wr w base (.slice (some ⟨g, 0, none⟩) k cap) (xs.take k) := by
  have hl : (xs.take k).length = k := by rw [List.length_take]; omega
  obtain ⟨ao, cap', hv, hc, hx⟩ := h
  simp only [Value.slice.injEq] at hv
  obtain ⟨rfl, _, rfl⟩ := hv
  refine ⟨_, cap, by rw [hl], by omega, fun hp => ?_⟩
  rw [hl] at hp
  obtain ⟨g', ha, hg, hgs, hcell⟩ := hx (by omega)
  refine ⟨g', ha, hg, hgs, fun j hj => ?_⟩
  rw [hl] at hj
  rw [take_getD xs k j hj]
  exact hcell j (by omega)

theorem str_wr {w : World} {base : Nat} {v : Value} {xs : List Int} (h : Wr w base v xs) (hz : Bytes xs) : (convert 22 9 v).run Try.prog w = .ok (.string (asB xs)) w := by
  obtain ⟨ao, cap, rfl, hc, hx⟩ := h
  by_cases hp : 0 < xs.length
  · obtain ⟨g, rfl, _, _, hcell⟩ := hx hp
    have hs := str_of w g 0 cap xs.length xs hz (Nat.le_refl _) (fun j hj => by rw [Nat.zero_add]; exact (hcell j hj).1)
    rwa [List.take_of_length_le (Nat.le_refl _)] at hs
  · obtain rfl : xs = [] := List.eq_nil_of_length_eq_zero (by omega)
    exact str_nil w ao cap

theorem slice_to (g n cap k : Nat) (hk : k ≤ n) (hc : n ≤ cap) (hp : 0 < n) (W : World) : (Instr.slice 22 (.slice (some ⟨g, 0, none⟩) n cap) none (some (.int .i64 (k : Int))) none).run Try.prog W = .ok (.slice (some ⟨g, 0, none⟩) k cap) W := by
  obtain ⟨i0, hi, hz0, hz1, hz2⟩ := info_parts Try.infoB
  have hel : Try.prog.elem 22 = 5 := by kernel_rfl
  have hsz : (sizeOf 5).run Try.prog W = .ok 1 W := by simp [sizeOf, typeInfo, hi, hz1]
  rw [run_slice_h W 22 _ n cap (by rw [hel]; exact Try.underlying22) .i64 _ (by omega) (by omega), hel, hsz]
  have hc0 : ¬ cap = 0 := by omega
  simp [Result.andThen, sliced, hc0]
  exact Addr.add_lit ..

theorem slice_on (g n cap p : Nat) (hp : p ≤ n) (hc : n ≤ cap) : ∃ a cap', n - p ≤ cap' ∧ (p < n → a = ⟨g, p, none⟩) ∧
    ∀ W : World, (Instr.slice 22 (.slice (some ⟨g, 0, none⟩) n cap) (some (.int .i64 (p : Int))) none none).run Try.prog W = .ok (.slice (some a) (n - p) cap') W := by
  obtain ⟨i0, hi, hz0, hz1, hz2⟩ := info_parts Try.infoB
  have hel : Try.prog.elem 22 = 5 := by kernel_rfl
  have hsz : ∀ W : World, (sizeOf 5).run Try.prog W = .ok 1 W := fun W => by simp [sizeOf, typeInfo, hi, hz1]
  by_cases hcp : cap = p
  · refine ⟨⟨g, 0, none⟩, cap - p, by omega, fun h => by omega, fun W => ?_⟩
    rw [run_slice_l W 22 _ n cap (by rw [hel]; exact Try.underlying22) .i64 _ (by omega) (by omega), hel, hsz]
    simp [Result.andThen, sliced, hcp]
  · refine ⟨⟨g, p, none⟩, cap - p, by omega, fun _ => rfl, fun W => ?_⟩
    rw [run_slice_l W 22 _ n cap (by rw [hel]; exact Try.underlying22) .i64 _ (by omega) (by omega), hel, hsz]
    simp [Result.andThen, sliced, hcp]
    rw [Addr.add_lit, Nat.zero_add]

/-- the cells of a cut -/
theorem cut_cells {w : World} {g p n : Nat} {a : Addr} {xs : List Int} (hn : xs.length = n) (ha : p < n → a = ⟨g, p, none⟩) (hc : ∀ j, j < n → w.cell? ⟨g, j, none⟩ = some (.int .u8 (xs.getD j 0))) :
    ∀ j u, (cellsByteS (xs.drop p))[j]? = some u → w.cell? (a.add j) = some u := by
  intro j u hu
  have hj : j < n - p := by
    have := (List.getElem?_eq_some_iff.1 hu).1
    simpa [hn] using this
  rw [ha (by omega), Addr.add_lit, hc (p + j) (by omega)]
  rw [← hu, ints_get .u8 _ j (by rw [List.length_drop]; omega)]
  simp [List.getD]
theorem take_cells {w : World} {g k n : Nat} {xs : List Int} (hn : xs.length = n) (hk : k ≤ n) (hc : ∀ j, j < n → w.cell? ⟨g, j, none⟩ = some (.int .u8 (xs.getD j 0))) :
    ∀ j u, (cellsByteS (xs.take k))[j]? = some u → w.cell? ((⟨g, 0, none⟩ : Addr).add j) = some u := by
  intro j u hu
  have hj : j < k := by
    have := (List.getElem?_eq_some_iff.1 hu).1
    rw [cellsByteS, List.length_map, List.length_take] at this
    omega
  rw [Addr.add_lit, Nat.zero_add, hc j (by omega), ← hu, ints_get .u8 _ j (by rw [List.length_take]; omega), take_getD _ _ _ hj]

theorem wr_conv {w : World} {s : ByteArray} {cap : Nat} (hcap : s.size ≤ cap) (hsz : (bytesRow s cap).size = cap) :
    Wr (w.drew.alloc (.cells (bytesRow s cap) 5 ((bytesRow s cap).size, (bytesRow s cap).size + 1))) w.heap.size (.slice (some ⟨w.heap.size, 0, none⟩) s.size cap) (byts s) := by
  have hl := byts_len s
  refine ⟨_, cap, by rw [hl], by rw [hl]; exact hcap, fun hp => ⟨w.heap.size, rfl, Nat.le_refl _, by simp, fun j hj => ⟨?_, ?_⟩⟩⟩
  · rw [hl] at hj
    exact conv_cells w s cap 5 _ j hj
  · rw [hl] at hj
    have h := World.frozen?_alloc_mark w.drew (bytesRow s cap) 5 (bytesRow s cap).size ((bytesRow s cap).size + 1) j
    rw [show w.drew.heap.size = w.heap.size from rfl] at h
    rw [h, decide_eq_false (by omega)]
    rfl
theorem bytesRow_size (s : ByteArray) (cap : Nat) (h : s.size ≤ cap) : (bytesRow s cap).size = cap := by
  have e : s.data.size = s.size := rfl
  simp [bytesRow, e]; omega

/-- one step of a draw's own building: the row of an earlier block, the cursor and the rest stay -/
theorem bend_step {w w0 w5 : World} {g cb n B0 : Nat} {row : Option Nat} {v : Value} {bs xs : List Int} (hg5 : w0.grownBy w5 row) (hgs : g < w0.heap.size) (hrow : ∀ i, row = some i → B0 ≤ i) (hgB : g < B0) (hcb : cb < w.heap.size) (_hB0 : w.heap.size ≤ B0) (_hgb : w.heap.size ≤ g)
    (hc : ∀ j, j < n → w0.cell? ⟨g, j, none⟩ = some (.int .u8 (xs.getD j 0))) (hst : St w0 cb v bs) (hg : w.grownBy w0 (some cb)) :
    Hid (∀ j, j < n → w5.cell? ⟨g, j, none⟩ = some (.int .u8 (xs.getD j 0))) ∧ Hid (St w5 cb v bs) ∧ w.grownBy w5 (some cb) := by
  have hcb0 := st_lt hst
  refine ⟨fun j hj => (World.cell?_of_block (w := w0) (hg5.block g hgs (fun e => by have := hrow g e.symm; omega))).trans (hc j hj), ?_, grown_own hg hg5 (fun i h => by have := hrow i h; omega)⟩
  exact st_below hst ⟨hg5.os, hg5.tape, hg5.output, hg5.size, fun i hi => hg5.block i (by omega) (fun e => by have := hrow i e.symm; omega)⟩

set_option maxHeartbeats 8000000 in
set_option maxRecDepth 100000 in
theorem bend_any (cb : Nat) (v : Value) (bs : List Int) (s sg : ByteArray) (w : World) (hst : St w cb v bs) (hl : bs.length ≤ 4096) (hz : ∀ j, 0 ≤ bs.getD j 0 ∧ bs.getD j 0 ≤ 255) (hs : s.size ≤ 2000000) (hsg0 : 0 < sg.size) (hsg1 : sg.size ≤ 100) :
    Calls Try.prog 67 #[.pointer (some ⟨cb, 0, none⟩), .string s, .string sg] w fun e w' => ∃ t : ByteArray, e = .returned (.string t) ∧ t.size ≤ s.size + 2 ∧ St w' cb v bs ∧ w.grownBy w' (some cb) := by
  obtain ⟨i0, hi, hz0, hz1, hz2⟩ := info_parts Try.infoB
  have hcb := st_lt hst
  have hcv := run_bytes_of_string (P := Try.prog) w 9 22 5 s Try.underlying9 Try.underlying22 Try.underlying5
  obtain ⟨cap, hcap⟩ : ∃ cap, cap = grownCap w s.size 0 5 := ⟨_, rfl⟩
  have hge : s.size ≤ cap := by rw [hcap]; exact grownCap_ge w s.size 0 5
  rw [← hcap] at hcv
  clear hcap
  have hwr := wr_conv (w := w) hge (bytesRow_size s cap hge)
  obtain ⟨cs, hcs⟩ : ∃ cs, cs = bytesRow s cap := ⟨_, rfl⟩
  rw [← hcs] at hcv hwr
  have hst0 : St (w.drew.alloc (.cells cs 5 (cs.size, cs.size + 1))) cb v bs := st_below hst ((Below.refl (cb + 1) w).drew.alloc (by show cb + 1 ≤ w.heap.size; omega) _)
  have hg0 : w.grownBy (w.drew.alloc (.cells cs 5 (cs.size, cs.size + 1))) (some cb) := grown_trans (w := w.drew) ⟨rfl, rfl, rfl, Nat.le_refl _, fun _ _ _ => rfl⟩ (World.grownBy_alloc w.drew _ _)
  have hbl := byts_len s
  have HZ : Hid (∀ j, 0 ≤ bs.getD j 0 ∧ bs.getD j 0 ≤ 255) := hz
  have HBY : Hid (Bytes (byts s)) := byts_bytes s
  clear hcs hst hz
  go_enter Try.func67, Try.ntmps67
  go_wp2_with fail
  refine (below_any cb v bs 3 _ hst0 hl HZ.out (by omega)).mono ?_
  rintro e w1 ⟨n, rfl, hn0, hn1, _, hst1, hg1⟩
  have hn2 := hn1 (by omega)
  have hwr1 := wr_grown hwr hg1 hcb
  have hg1w := grown_trans hg0 hg1
  have HST1 : Hid (St w1 cb v bs) := hst1
  have hbl2 : Hid ((byts s).length = s.size) := hbl
  rw [← hbl] at hwr1
  clear hst0 hg0 hg1 hst1 hwr hcv hn1
  rw [← hbl]
  clear hbl
  go_wp2
  go_loopw [7, 8] (fun b q wr => ∃ (m : Int) (xs : List Int), q = .int .i64 m ∧ 0 ≤ m ∧ m ≤ 2 ∧ (xs.length : Int) + m ≤ (s.size : Int) + 2 ∧ Hid (Bytes xs) ∧ Wr wr w.heap.size b xs ∧ Hid (St wr cb v bs) ∧ w.grownBy wr (some cb)) (fun _ q _ => (intOf q).toNat)
  case atStart => exact ⟨n, byts s, rfl, hn0, by omega, by have := hbl2.out; omega, HBY, hwr1, HST1, hg1w⟩
  case round =>
    obtain ⟨m, xs, rfl, hm0, hm2, hm1, hby, hw, hst2, hg2⟩ := hrel
    have hsr := hg2.size
    clear hwr1 hg1w
    by_cases hgo : 0 < m ∧ 0 < (xs.length : Int)
    · obtain ⟨hmp, hxp⟩ := hgo
      obtain ⟨ao, cap2, rfl, hcap2, hx⟩ := hw
      obtain ⟨g, rfl, hgb, hgs, hcell⟩ := hx (by omega)
      have HW : Hid (Wr wr w.heap.size (.slice (some ⟨g, 0, none⟩) xs.length cap2) xs) := ⟨_, cap2, rfl, hcap2, fun _ => ⟨g, rfl, hgb, hgs, hcell⟩⟩
      clear hx hcell
      go_wp2_with fail
      refine (below_any cb v bs (xs.length : Int) _ hst2.out hl HZ.out (by omega)).mono ?_
      rintro e w3 ⟨k, rfl, hk0, hk1, _, hst3, hg3⟩
      have hk2 := hk1 hxp
      have HW3 : Hid (Wr w3 w.heap.size (.slice (some ⟨g, 0, none⟩) xs.length cap2) xs) := wr_grown HW.out hg3 hcb
      have hg3w := grown_trans hg2 hg3
      clear hk1 hg2 hg3 hst2 HW
      obtain ⟨k, rfl⟩ := Int.eq_ofNat_of_zero_le hk0
      go_wp2_with fail
      refine (below_any cb v bs 4 _ hst3 hl HZ.out (by omega)).mono ?_
      rintro e w4 ⟨r, rfl, hr0, hr1, _, hst4, hg4⟩
      have hr2 := hr1 (by omega)
      have HW4 : Hid (Wr w4 w.heap.size (.slice (some ⟨g, 0, none⟩) xs.length cap2) xs) := wr_grown HW3.out hg4 hcb
      have hg4w := grown_trans hg3w hg4
      have HST4 : Hid (St w4 cb v bs) := hst4
      have hs4 := hg4w.size
      clear hr1 hg3w hg4 hst3 hst4 HW3
      rcases (show r = 0 ∨ r = 1 ∨ r = 2 ∨ r = 3 by omega) with rfl | rfl | rfl | rfl
      · go_wp2_with fail
        refine (below_any cb v bs (sg.size : Int) _ HST4.out hl HZ.out (by omega)).mono ?_
        rintro e w5 ⟨q, rfl, hq0, hq1, _, hst5, hg5⟩
        have hq2 := hq1 (by omega)
        obtain ⟨q, rfl⟩ := Int.eq_ofNat_of_zero_le hq0
        have hqs : q < sg.size := by omega
        have hg5w := grown_trans hg4w hg5
        obtain ⟨ao, cap3, he, _, hx⟩ := wr_grown HW4.out hg5 hcb
        simp only [Value.slice.injEq] at he
        obtain ⟨rfl, _, rfl⟩ := he
        obtain ⟨g', he, _, hgs5, hcell⟩ := hx (by omega)
        simp only [Option.some.injEq, Addr.mk.injEq, and_true] at he
        obtain rfl := he
        have hc5 := (hcell k (by omega)).1
        have hf5 := (hcell k (by omega)).2
        have HCELL : Hid (∀ j, j < xs.length → w5.cell? ⟨g, j, none⟩ = some (.int .u8 (xs.getD j 0)) ∧ w5.frozen? ⟨g, j, none⟩ = false) := hcell
        obtain ⟨z, hzz⟩ : ∃ z : Int, z = ((sg[q]'hqs).toNat : Int) := ⟨_, rfl⟩
        have hzb : 0 ≤ z ∧ z ≤ 255 := by have := (sg[q]'hqs).toNat_lt; omega
        have hw6 : Hid (Wr (w5.setCell ⟨g, k, none⟩ (.int .u8 z)) w.heap.size (.slice (some ⟨g, 0, none⟩) xs.length cap2) (xs.set k z)) := by
          have hl6 : (xs.set k z).length = xs.length := List.length_set
          refine ⟨_, cap2, by rw [hl6], by omega, fun _ => ⟨g, rfl, hgb, by simpa using hgs5, fun j hj => ⟨?_, ?_⟩⟩⟩
          · rw [hl6] at hj
            by_cases hjk : k = j
            · subst hjk
              rw [World.cell?_setCell_same _ _ _ hc5]
              simp [List.getD, hj]
            · rw [World.cell?_setCell_other _ _ _ _ (by simp only [ne_eq, Addr.mk.injEq]; omega), (HCELL.out j hj).1]
              simp [List.getD, hjk]
          · rw [hl6] at hj
            rw [World.frozen?_setCell]
            exact (HCELL.out j hj).2
        have HST6 : Hid (St (w5.setCell ⟨g, k, none⟩ (.int .u8 z)) cb v bs) := st_below hst5 ((Below.refl _ _).setCell (by show cb + 1 ≤ g; omega) _)
        have hg6 : w.grownBy (w5.setCell ⟨g, k, none⟩ (.int .u8 z)) (some cb) := grown_own hg5w ⟨rfl, rfl, rfl, by simp, fun i _ hi => heap_setCell_other w5 ⟨g, k, none⟩ i _ (fun e => hi (by simp [e]))⟩ (row := some g) (fun g' h => by cases h; exact hgb)
        have hby6 : Hid (Bytes (xs.set k z)) := fun x hx => by
          rcases List.mem_or_eq_of_mem_set hx with h | h
          · exact hby.out x h
          · rw [h]; exact hzb
        have HL6 : Hid ((xs.set k z).length = xs.length) := List.length_set
        obtain ⟨u, hu⟩ : ∃ u, u = Value.int .u8 (xs.getD k 0) := ⟨_, rfl⟩
        rw [← hu] at hc5
        rw [hzz] at hw6 HST6 hg6 hby6 HL6
        clear hu hx hcell hzb hzz hst5 hg5 hg5w hq1
        go_wp2
        go_roundw
        case rel => exact ⟨m - 1, xs.set k ((sg[q]'hqs).toNat : Int), by go_num, by omega, by omega, by have := HL6.out; omega, hby6, by rw [HL6.out] at *; exact hw6.out, HST6, hg6⟩
        case measure => simp [intOf]; omega
      · have hsl := slice_to g xs.length cap2 k (by omega) hcap2 (by omega)
        have hw5 := wr_take k (by omega) HW4.out
        have hby5 : Hid (Bytes (xs.take k)) := bytes_take hby.out k
        have hl5 : (xs.take k).length = k := by rw [List.length_take]; omega
        have HL5 : Hid ((xs.take k).length = k) := hl5
        clear hl5
        go_wp2
        go_roundw
        case rel => exact ⟨m - 1, xs.take k, by go_num, by omega, by omega, by have := HL5.out; omega, hby5, hw5, HST4, hg4w⟩
        case measure => simp [intOf]; omega
      · have _two : True := trivial
        obtain ⟨ao, cap3, he, _, hx⟩ := HW4.out
        simp only [Value.slice.injEq] at he
        obtain ⟨rfl, _, rfl⟩ := he
        obtain ⟨g', he, _, hgs4, hcell⟩ := hx (by omega)
        simp only [Option.some.injEq, Addr.mk.injEq, and_true] at he
        obtain rfl := he
        have HCELL : Hid (∀ j, j < xs.length → w4.cell? ⟨g, j, none⟩ = some (.int .u8 (xs.getD j 0))) := fun j hj => (hcell j hj).1
        have hsl1 := slice_to g xs.length cap2 k (by omega) hcap2 (by omega)
        obtain ⟨a5, cap5, hcap5, ha5, hsl2⟩ := slice_on g xs.length cap2 (k + 1) (by omega) hcap2
        rw [show ((k + 1 : Nat) : Int) = (k : Int) + 1 by omega] at hsl2
        have HA5 : Hid (k + 1 < xs.length → a5 = ⟨g, k + 1, none⟩) := ha5
        have hown0 : (w4.alloc (.cells #[] 5)).drew.ownsRow w.heap.size 5 1 (.slice (some ⟨w4.heap.size, 0, none⟩) 0 0) 0 [] := (World.ownsRow_lit w4 #[] 0 hs4 (Nat.zero_le _) rfl).drew
        have HC5 : Hid (∀ j, j < xs.length → (w4.alloc (.cells #[] 5)).drew.cell? ⟨g, j, none⟩ = some (.int .u8 (xs.getD j 0))) := fun j hj => (World.cell?_alloc_past _ _ _ hgs4).trans (HCELL.out j hj)
        have HN : Hid (∀ (w5 : World) (row : Option Nat), (w4.alloc (.cells #[] 5)).drew.grownBy w5 row → row = some w4.heap.size → ∀ j, j < xs.length → w5.cell? ⟨g, j, none⟩ = some (.int .u8 (xs.getD j 0))) := fun w5 row h hr j hj =>
          (World.cell?_of_block (w := (w4.alloc (.cells #[] 5)).drew) (h.block g (by show g < (w4.alloc _).heap.size; simp; omega) (by rw [hr]; simp; omega))).trans (HC5.out j hj)
        have hl1 : Hid ((xs.take k).length = k) := by show _ = _; rw [List.length_take]; omega
        have hl2 : Hid ((xs.drop (k + 1)).length = xs.length - (k + 1)) := List.length_drop
        have hg0w : Hid (w.grownBy ((w4.alloc (.cells #[] 5)).drew) (some cb)) := grown_trans hg4w (grown_drew (World.grownBy_alloc w4 _ _))
        have hw64 : IntKind.i64.wrap ((k : Int) + 1) = (k : Int) + 1 := IntWalk.i64_in _ ⟨by omega, by omega⟩
        clear hx hcell ha5 hown0
        go_wp2
        go_region_law (first
          | (refine step_append_own rfl (.tmp 47) (.tmp 50) 22 rfl w.heap.size 5 i0 (.int .u8 0) 1 1 Try.underlying22 hi hz0 hz1 hz2 rfl (by decide) (.slice (some ⟨w4.heap.size, 0, none⟩) 0 0) 0 [] (by simp [Act.eval]) (World.ownsRow.drew (World.ownsRow_lit w4 #[] 0 hs4 (Nat.zero_le _) rfl)) ⟨g, 0, none⟩ k cap2 (cellsByteS (xs.take k)) (by simp [Act.eval]) (by rw [cellsByteS, List.length_map, hl1.out, Nat.mul_one]) (take_cells rfl (by omega) HC5.out) (ints_oneCell .u8 _) (by unfold maxLen; omega) (by omega) (by simp; omega) ?_; intro v5 w5 ho5 hg5; have hc5 := HN.out w5 _ hg5 rfl; have hgb5 : w.grownBy w5 (some cb) := grown_own hg0w.out hg5 (fun g' h => by cases h; exact hs4); have HCC5 : Hid (∀ j, j < xs.length → w5.cell? ⟨g, j, none⟩ = some (.int .u8 (xs.getD j 0))) := hc5; clear hc5; have hs5 := hgb5.size)
          | (refine step_append_own rfl (.tmp 51) (.tmp 55) 22 rfl w.heap.size 5 i0 (.int .u8 0) 1 1 Try.underlying22 hi hz0 hz1 hz2 rfl (by decide) _ (0 + k) ([] ++ cellsByteS (xs.take k)) (by simp [Act.eval]) ho5 a5 (xs.length - (k + 1)) cap5 (cellsByteS (xs.drop (k + 1))) (by simp [Act.eval]) (by rw [cellsByteS, List.length_map, hl2.out, Nat.mul_one]) (cut_cells rfl HA5.out HCC5.out) (ints_oneCell .u8 _) (by unfold maxLen; omega) (by omega) (by omega) ?_; intro v6 w6 ho6 hg6))
        all_goals
          have hgb6 : w.grownBy w6 (some cb) := grown_own hgb5 hg6 (fun g' h => (ho5.lt g' h).1)
          have hb6 : Below (cb + 1) ((w4.alloc (.cells #[] 5)).drew) w6 := by
            have e5 : Below (cb + 1) ((w4.alloc (.cells #[] 5)).drew) w5 := ⟨hg5.os, hg5.tape, hg5.output, hg5.size, fun i hi' => hg5.block i (by show i < (w4.alloc _).heap.size; simp; omega) (by simp [Value.ownBlock]; omega)⟩
            exact e5.trans ⟨hg6.os, hg6.tape, hg6.output, hg6.size, fun i hi' => hg6.block i (by omega) (fun e => by have := (ho5.lt i e.symm).1; omega)⟩
          have HST6 : Hid (St w6 cb v bs) := st_below HST4.out (((Below.refl (cb + 1) w4).alloc (by omega) (.cells #[] 5)).drew.trans hb6)
          have hlen6 : (xs.take k ++ xs.drop (k + 1)).length = 0 + k + (xs.length - (k + 1)) := by rw [List.length_append, hl1.out, hl2.out]; omega
          have ho7 : w6.ownsRow w.heap.size 5 1 v6 (xs.take k ++ xs.drop (k + 1)).length (cellsByteS (xs.take k ++ xs.drop (k + 1))) := by
            rw [hlen6]
            simpa using ho6
          have hw6 : Hid (Wr w6 w.heap.size v6 (xs.take k ++ xs.drop (k + 1))) := wr_owns ho7
          have HL6 : Hid ((xs.take k ++ xs.drop (k + 1)).length = 0 + k + (xs.length - (k + 1))) := hlen6
          have hby6 : Hid (Bytes (xs.take k ++ xs.drop (k + 1))) := bytes_append (bytes_take hby.out k) (fun x hx => hby.out x (List.mem_of_mem_drop hx))
          clear ho6 ho7 ho5 hg5 hg6 hgb5 hb6 hlen6
          go_wp2
          go_roundw
          case rel => exact ⟨m - 1, xs.take k ++ xs.drop (k + 1), by go_num, by omega, by omega, by have := HL6.out; omega, hby6, hw6.out, HST6, hgb6⟩
          case measure => simp [intOf]; omega
      · have _three : True := trivial
        obtain ⟨ao, cap3, he, _, hx⟩ := HW4.out
        simp only [Value.slice.injEq] at he
        obtain ⟨rfl, _, rfl⟩ := he
        obtain ⟨g', he, _, hgs4, hcell⟩ := hx (by omega)
        simp only [Option.some.injEq, Addr.mk.injEq, and_true] at he
        obtain rfl := he
        have HCELL : Hid (∀ j, j < xs.length → w4.cell? ⟨g, j, none⟩ = some (.int .u8 (xs.getD j 0))) := fun j hj => (hcell j hj).1
        have hsl1 := slice_to g xs.length cap2 k (by omega) hcap2 (by omega)
        obtain ⟨a5, cap5, hcap5, ha5, hsl2⟩ := slice_on g xs.length cap2 k (by omega) hcap2
        have HA5 : Hid (k < xs.length → a5 = ⟨g, k, none⟩) := ha5
        have hown0 : (w4.alloc (.cells #[] 5)).drew.ownsRow w.heap.size 5 1 (.slice (some ⟨w4.heap.size, 0, none⟩) 0 0) 0 [] := (World.ownsRow_lit w4 #[] 0 hs4 (Nat.zero_le _) rfl).drew
        have HC5 : Hid (∀ j, j < xs.length → (w4.alloc (.cells #[] 5)).drew.cell? ⟨g, j, none⟩ = some (.int .u8 (xs.getD j 0))) := fun j hj => (World.cell?_alloc_past _ _ _ hgs4).trans (HCELL.out j hj)
        have hl1 : Hid ((xs.take k).length = k) := by show _ = _; rw [List.length_take]; omega
        have hl2 : Hid ((xs.drop k).length = xs.length - k) := List.length_drop
        have hg0w : Hid (w.grownBy ((w4.alloc (.cells #[] 5)).drew) (some cb)) := grown_trans hg4w (grown_drew (World.grownBy_alloc w4 _ _))
        have HST5 : Hid (St ((w4.alloc (.cells #[] 5)).drew) cb v bs) := st_below HST4.out (((Below.refl (cb + 1) w4).alloc (by omega) (.cells #[] 5)).drew)
        clear hx hcell ha5 hown0
        go_wp2
        go_region_law (first
          | (refine step_append_own rfl (.tmp 59) (.tmp 62) 22 rfl w4.heap.size 5 i0 (.int .u8 0) 1 1 Try.underlying22 hi hz0 hz1 hz2 rfl (by decide) (.slice (some ⟨w4.heap.size, 0, none⟩) 0 0) 0 [] (by simp [Act.eval]) (World.ownsRow.drew (World.ownsRow_lit w4 #[] 0 (Nat.le_refl _) (Nat.zero_le _) rfl)) ⟨g, 0, none⟩ k cap2 (cellsByteS (xs.take k)) (by simp [Act.eval]) (by rw [cellsByteS, List.length_map, hl1.out, Nat.mul_one]) (take_cells rfl (by omega) HC5.out) (ints_oneCell .u8 _) (by unfold maxLen; omega) (by omega) (by simp) ?_; intro v5 w5 ho5 hg5; have hr5 := bend_step hg5 (by show g < (w4.alloc _).heap.size; simp; omega) (fun i h => by cases h; exact Nat.le_refl _) hgs4 hcb hs4 hgb HC5.out HST5.out hg0w.out; obtain ⟨HCC5, HSTT5, hgb5⟩ := hr5; have hs5 : w4.heap.size + 1 ≤ w5.heap.size := (by have := hg5.size; simpa using this))
          | (go_simp; go_at_call 65; refine (below_any cb v bs (sg.size : Int) _ HSTT5.out hl HZ.out (by omega)).mono ?_; rintro e w6 ⟨q, rfl, hq0, hq1, _, hst6, hg6⟩; have hq2 := hq1 (by omega); obtain ⟨q, rfl⟩ := Int.eq_ofNat_of_zero_le hq0; have hqs : q < sg.size := (by omega); have ho6 := owns_grown ho5 hg6 (fun i h h' => by cases h; have := (ho5.lt cb h').1; omega); have hgb6 := grown_trans hgb5 hg6; have hs6 : w4.heap.size + 1 ≤ w6.heap.size := (by have := hg6.size; omega); have HCC6 : Hid (∀ j, j < xs.length → (w6.alloc (.cells #[.int .u8 ((sg[q]'hqs).toNat : Int)] 5)).cell? ⟨g, j, none⟩ = some (.int .u8 (xs.getD j 0))) := (fun j hj => (World.cell?_alloc_past _ _ _ (by omega)).trans ((World.cell?_of_block (w := w5) (hg6.block g (by omega) (by simp; omega))).trans (HCC5.out j hj))); have HST6 : Hid (St (w6.alloc (.cells #[.int .u8 ((sg[q]'hqs).toNat : Int)] 5)) cb v bs) := st_below hst6 ((Below.refl _ _).alloc (by omega) _); have HG6 : Hid (w.grownBy (w6.alloc (.cells #[.int .u8 ((sg[q]'hqs).toNat : Int)] 5)) (some cb)) := grown_trans hgb6 (World.grownBy_alloc w6 _ _))
          | (refine step_append_own rfl (.tmp 63) (.tmp 70) 22 rfl w4.heap.size 5 i0 (.int .u8 0) 1 1 Try.underlying22 hi hz0 hz1 hz2 rfl (by decide) _ (0 + k) ([] ++ cellsByteS (xs.take k)) (by simp [Act.eval]) (ho6.alloc _) ⟨w6.heap.size, 0, none⟩ 1 1 [.int .u8 ((sg[q]'hqs).toNat : Int)] (by simp [Act.eval]) rfl (one_cell w6 .u8 _ _) (ints_oneCell .u8 [_]) (by unfold maxLen; omega) (by omega) (by simp; omega) ?_; intro v7 w7 ho7 hg7; have hr7 := bend_step hg7 (by simp; omega) (fun i h => (ho6.lt i h).1) hgs4 hcb hs4 hgb HCC6.out HST6.out HG6.out; obtain ⟨HCC7, HSTT7, hgb7⟩ := hr7; have hs7 : w4.heap.size + 1 ≤ w7.heap.size := (by have := hg7.size; simp at this; omega))
          | (refine step_append_own rfl (.tmp 71) (.tmp 74) 22 rfl w4.heap.size 5 i0 (.int .u8 0) 1 1 Try.underlying22 hi hz0 hz1 hz2 rfl (by decide) _ (0 + k + 1) ([] ++ cellsByteS (xs.take k) ++ [.int .u8 ((sg[q]'hqs).toNat : Int)]) (by simp [Act.eval]) ho7 a5 (xs.length - k) cap5 (cellsByteS (xs.drop k)) (by simp [Act.eval]) (by rw [cellsByteS, List.length_map, hl2.out, Nat.mul_one]) (cut_cells rfl HA5.out HCC7.out) (ints_oneCell .u8 _) (by unfold maxLen; omega) (by omega) (by omega) ?_; intro v8 w8 ho8 hg8; have hr8 := bend_step hg8 (by omega) (fun i h => (ho7.lt i h).1) hgs4 hcb hs4 hgb HCC7.out HSTT7.out hgb7; obtain ⟨_, HSTT8, hgb8⟩ := hr8))
        all_goals
          have hlen8 : (xs.take k ++ [((sg[q]'hqs).toNat : Int)] ++ xs.drop k).length = 0 + k + 1 + (xs.length - k) := by rw [List.length_append, List.length_append, hl1.out, hl2.out, List.length_singleton]; omega
          have ho9 : w8.ownsRow w.heap.size 5 1 v8 (xs.take k ++ [((sg[q]'hqs).toNat : Int)] ++ xs.drop k).length (cellsByteS (xs.take k ++ [((sg[q]'hqs).toNat : Int)] ++ xs.drop k)) := by
            rw [hlen8]
            have h := owns_base ho8 hs4
            simpa using h
          have hw8 : Hid (Wr w8 w.heap.size v8 (xs.take k ++ [((sg[q]'hqs).toNat : Int)] ++ xs.drop k)) := wr_owns ho9
          have HL8 : Hid ((xs.take k ++ [((sg[q]'hqs).toNat : Int)] ++ xs.drop k).length = 0 + k + 1 + (xs.length - k)) := hlen8
          have hby8 : Hid (Bytes (xs.take k ++ [((sg[q]'hqs).toNat : Int)] ++ xs.drop k)) := bytes_append (bytes_append (bytes_take hby.out k) (fun x hx => by rw [List.mem_singleton.1 hx]; have := (sg[q]'hqs).toNat_lt; omega)) (fun x hx => hby.out x (List.mem_of_mem_drop hx))
          clear ho8 ho9 ho7 ho6 ho5 hg5 hg6 hg7 hg8 hgb5 hgb6 hgb7 hlen8 hst6
          go_wp2
          go_roundw
          case rel => exact ⟨m - 1, xs.take k ++ [((sg[q]'hqs).toNat : Int)] ++ xs.drop k, by go_num, by omega, by omega, by have := HL8.out; omega, hby8, hw8.out, HSTT8, hgb8⟩
          case measure => simp [intOf]; omega
    · have hstr := str_wr hw hby.out
      have hsz : (asB xs).size ≤ s.size + 2 := by rw [asB_size]; omega
      obtain ⟨ao, cap3, rfl, _, _⟩ := hw
      have HSTR : Hid (St wr cb v bs) := hst2
      by_cases hmp : 0 < m
      · have hxe : xs = [] := List.eq_nil_of_length_eq_zero (by
          by_cases h : 0 < (xs.length : Int)
          · exact absurd ⟨hmp, h⟩ hgo
          · omega)
        subst hxe
        have hstr2 := str_nil wr ao cap3
        clear hgo hst2 hstr
        go_wp2
        go_ret
        exact ⟨_, rfl, hsz, HSTR.out, hg2⟩
      · clear hgo hst2
        go_wp2
        go_ret
        exact ⟨_, rfl, hsz, HSTR.out, hg2⟩

end Go.Proofs.Ytfoncmeplofedaa
