/- CONTRACTS: slices.Grow of nothing, slices.Concat of two. -/
import Derived.Test.YtgcpdifggjkdhabShort
import Derived.Lib.AppendZeros
import Derived.Lib.Hide
import Derived.Deep.MidRow
namespace Go.Proofs.Ytgcpdifggjkdhab
open Go.RowKit
set_option linter.unusedVariables false
theorem Try.infoN : (Try.prog.info? 3).map (fun i => (i.zero, i.size, i.bytes)) = some (some (.int .i64 0), 1, 8) := by kernel_rfl
set_option maxHeartbeats 1000000 in
set_option maxRecDepth 100000 in
theorem grow5_any (n : Nat) (hn0 : 0 < n) (hn : n ≤ 1000) (w : World) :
    Calls Try.prog 115 #[.slice none 0 0, .int .i64 (n : Int)] w fun e w' => ∃ v, e = .returned v ∧ w'.ownsRow w.heap.size 3 1 v 0 [] ∧ Below w.heap.size w w' := by
  obtain ⟨i0, hi, hz0, hz1, hz2⟩ := info_parts Try.infoN
  have hrow := Lib.run_append_nil_zeros (P := Try.prog) w 71 3 71 3 i0 (.int .i64 0) .i64 .i64 Try.underlying71 Try.underlying3 hi hz0 n hn0 (by rw [hz1]; decide) (by omega) (by rw [hz2]; omega)
  have hge := grownCap_ge w n 0 3
  have hle := grownCap_le_maxLen w n 0 3 (by unfold maxLen; omega)
  obtain ⟨cap, hcap⟩ : ∃ cap, cap = grownCap w n 0 3 := ⟨_, rfl⟩
  rw [← hcap] at hrow hge hle
  have hown : ∀ fr, (w.drew.alloc (.cells (Builtin.zeroCells (Value.int .i64 0).cells n ++ Builtin.zeroCells (Value.int .i64 0).cells (cap - n)) 3)).ownsRow w.heap.size 3 1 (.slice (some ⟨w.heap.size, 0, none⟩) 0 cap) fr [] → True := fun _ _ => trivial
  obtain ⟨cs, hcs⟩ : ∃ cs, cs = Builtin.zeroCells (Value.int .i64 0).cells n ++ Builtin.zeroCells (Value.int .i64 0).cells (cap - n) := ⟨_, rfl⟩
  have hcl : cs.size = cap := by
    rw [hcs, Array.size_append]
    simp [Builtin.zeroCells, Value.cells]
    omega
  rw [← hcs] at hrow
  clear hown hcs hcap
  have hO : Hid ((w.drew.alloc (.cells cs 3)).ownsRow w.heap.size 3 1 (.slice (some ⟨w.heap.size, 0, none⟩) 0 cap) 0 []) :=
    ⟨rfl, .inr ⟨w.heap.size, cap, cs, rfl, Nat.le_refl _, heap_alloc_new w.drew _, Nat.zero_le _, hle, by rw [hcl, Nat.mul_one], by simp⟩⟩
  have hB : Below w.heap.size w (w.drew.alloc (.cells cs 3)) := (Below.refl _ w).drew.alloc (Nat.le_refl _) _
  have HROW := Lib.hid hrow
  have hle2 : cap ≤ 9223372036854775807 := by unfold maxLen at hle; omega
  clear hrow hcl hle
  go_enter Try.func115, Try.ntmps115
  go_wp2_with (at_builtin; refine Lib.wpList_append_run _ rfl _ _ _ _ rfl _ _ rfl rfl _ _ HROW.out ?_)
  go_ret
  exact ⟨_, rfl, hO.out, hB⟩
theorem ints_cells5 {w : World} {b off : Nat} {xs : List Value} (h : ∀ j, j < xs.length → w.cell? ⟨b, off + j, none⟩ = xs[j]?) : ∀ j u, xs[j]? = some u → w.cell? ((⟨b, off, none⟩ : Addr).add j) = some u := fun j u hj => by
  rw [Addr.add_mid, h j (List.getElem?_eq_some_iff.1 hj).1, hj]
theorem cells_below5 {w w' : World} {b off : Nat} {xs : List Value} (h : ∀ j, j < xs.length → w.cell? ⟨b, off + j, none⟩ = xs[j]?) (hb : Below w.heap.size w w') (hlt : b < w.heap.size) : ∀ j, j < xs.length → w'.cell? ⟨b, off + j, none⟩ = xs[j]? := fun j hj => (hb.cell (p := ⟨b, off + j, none⟩) hlt).trans (h j hj)
set_option maxHeartbeats 2000000 in
set_option maxRecDepth 100000 in
theorem concat5_any (q : Nat) (v1 v2 : Value) (xs ys : List Int) (w : World) (h1 : Rd w v1 (cellsInt64S xs)) (h2 : Rd w v2 (cellsInt64S ys)) (hx0 : 0 < xs.length) (hy0 : 0 < ys.length) (hl : xs.length + ys.length ≤ 1000)
    (c1 : w.cell? ⟨q, 0, none⟩ = some v1) (c2 : w.cell? ⟨q, 1, none⟩ = some v2) (hq : q < w.heap.size) :
    Calls Try.prog 97 #[.slice (some ⟨q, 0, none⟩) 2 2] w fun e w' => ∃ v, e = .returned v ∧ w'.ownsRow w.heap.size 3 1 v (xs ++ ys).length (cellsInt64S (xs ++ ys)) ∧ Below w.heap.size w w' := by
  obtain ⟨i0, hi, hz0, hz1, hz2⟩ := info_parts Try.infoN
  rcases rd_cases h1 with ⟨h0, _⟩ | ⟨_, b1, o1, p1, rfl, _, hlt1, hc1⟩
  · have : xs = [] := by simpa using h0
    subst this; simp at hx0
  rcases rd_cases h2 with ⟨h0, _⟩ | ⟨_, b2, o2, p2, rfl, _, hlt2, hc2⟩
  · have : ys = [] := by simpa using h0
    subst this; simp at hy0
  have hla : (cellsInt64S xs).length = xs.length := by simp
  have hlb : (cellsInt64S ys).length = ys.length := by simp
  have HC1 := Lib.hid hc1
  have HC2 := Lib.hid hc2
  rw [hla] at c1
  rw [hlb] at c2
  obtain ⟨cx, hcx⟩ : ∃ cx, cx = cellsInt64S xs := ⟨_, rfl⟩
  obtain ⟨cy, hcy⟩ : ∃ cy, cy = cellsInt64S ys := ⟨_, rfl⟩
  rw [← hcx] at HC1 hla
  rw [← hcy] at HC2 hlb
  have hone1 : Hid (∀ u ∈ cx, u.oneCell' = true) := by rw [hcx]; exact ints_oneCell .i64 xs
  have hone2 : Hid (∀ u ∈ cy, u.oneCell' = true) := by rw [hcy]; exact ints_oneCell .i64 ys
  have HX := Lib.hid hcx
  have HY := Lib.hid hcy
  obtain ⟨m, hm⟩ : ∃ m, m = xs.length := ⟨_, rfl⟩
  obtain ⟨k, hk⟩ : ∃ k, k = ys.length := ⟨_, rfl⟩
  rw [← hm] at hla c1 hx0 hl
  rw [← hk] at hlb c2 hy0 hl
  have HM := Lib.hid hm
  have HK := Lib.hid hk
  have HLA := Lib.hid hla
  have HLB := Lib.hid hlb
  clear h1 h2 hc1 hc2 hcx hcy hm hk hla hlb
  go_enter Try.func97, Try.ntmps97
  go_wp2
  refine wp_loop_rounds 3 ?_
  rw [rounds_succ]
  go_wp2
  rw [rounds_succ]
  go_wp2
  rw [rounds_succ]
  obtain ⟨s, hs⟩ : ∃ s, s = m + k := ⟨_, rfl⟩
  have hmk : (m : Int) + (k : Int) = (s : Int) := by omega
  have hs0 : 0 < s := by omega
  have hsl : s ≤ 1000 := by omega
  clear hs
  go_wp2_with fail
  refine (grow5_any s hs0 hsl w).mono ?_
  rintro e w1 ⟨v, rfl, ho1, hb1⟩
  have d1 : w1.cell? ⟨q, 0, none⟩ = some (.slice (some ⟨b1, o1, none⟩) m p1) := (hb1.cell (p := ⟨q, 0, none⟩) hq).trans c1
  have hs1 := hb1.size
  have HB1 := Lib.hid hb1
  have HO1 := Lib.hid ho1
  clear hb1 ho1 hmk
  go_wp2
  refine wp_loop_rounds 3 ?_
  rw [rounds_succ]
  go_wp2_with (at_builtin; refine wpList_append_own _ rfl _ _ 71 rfl w.heap.size 3 i0 (.int .i64 0) 1 8 Try.underlying71 hi hz0 hz1 hz2 rfl (by decide) _ _ _ rfl HO1.out ⟨b1, o1, none⟩ m p1 cx rfl ?c1 ?c2 ?c3 ?c4 ?c5 ?c6 ?_)
  case c1 => rw [HLA.out, Nat.mul_one]
  case c2 => exact ints_cells5 (cells_below5 HC1.out HB1.out hlt1)
  case c3 => exact hone1.out
  case c4 => unfold maxLen; omega
  case c5 => omega
  case c6 => omega
  intro v2 w2 ho2 hg2 _
  have hb2 : Below w.heap.size w w2 := HB1.out.grown hg2 (by omega) (fun k hk => (HO1.out.lt k hk).1)
  have HO2 : Hid (w2.ownsRow w.heap.size 3 1 v2 m cx) := by
    first | exact ho2 | simpa using ho2
  have HB2 := Lib.hid hb2
  have hs2 := hb2.size
  have d2 : w2.cell? ⟨q, 1, none⟩ = some (.slice (some ⟨b2, o2, none⟩) k p2) := (hb2.cell (p := ⟨q, 1, none⟩) hq).trans c2
  clear ho2 hg2 hb2 HO1 HB1 d1 c1 c2
  go_wp2
  rw [rounds_succ]
  go_wp2_with (at_builtin; refine wpList_append_own _ rfl _ _ 71 rfl w.heap.size 3 i0 (.int .i64 0) 1 8 Try.underlying71 hi hz0 hz1 hz2 rfl (by decide) _ _ _ rfl HO2.out ⟨b2, o2, none⟩ k p2 cy rfl ?c1 ?c2 ?c3 ?c4 ?c5 ?c6 ?_)
  case c1 => rw [HLB.out, Nat.mul_one]
  case c2 => exact ints_cells5 (cells_below5 HC2.out HB2.out hlt2)
  case c3 => exact hone2.out
  case c4 => unfold maxLen; omega
  case c5 => omega
  case c6 => omega
  intro v3 w3 ho3 hg3 _
  have HB3 : Hid (Below w.heap.size w w3) := HB2.out.grown hg3 (by omega) (fun k hk => (HO2.out.lt k hk).1)
  have HO3 := Lib.hid ho3
  clear ho3 hg3 HO2 HB2 d2
  go_wp2
  rw [rounds_succ]
  go_wp2
  go_ret
  refine ⟨_, rfl, ?_, HB3.out⟩
  have e := HO3.out
  rw [HX.out, HY.out, HM.out, HK.out] at e
  rw [List.length_append]
  show World.ownsRow _ _ _ _ _ _ ((xs ++ ys).map (Value.int .i64))
  rw [List.map_append]
  exact e
end Go.Proofs.Ytgcpdifggjkdhab
