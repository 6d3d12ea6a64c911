/- CONTRACTS: the program's own: a impl.Item, and a row of them once more in memory of its own. (Written by numg.py.) -/
import Derived.Test.YtfoncmeplofedaqItF
import Derived.Test.YtfoncmeplofedaqBltg
namespace Go.Proofs.Ytfoncmeplofedaq
open Go.RowKit
set_option linter.unusedVariables false
theorem copiedIt {xs : List It} {n k : Nat} (h : k < xs.length) (hn : k < n) (z : It) : (xs.take k ++ List.replicate (n - k) z).set k (xs.getD k it0) = xs.take (k + 1) ++ List.replicate (n - (k + 1)) z := by
  have e1 : n - k = (n - (k + 1)) + 1 := by omega
  have e2 : (xs.take k).length = k := by rw [List.length_take]; omega
  rw [e1, List.replicate_succ, List.set_append_right _ _ (by omega), e2, Nat.sub_self, List.set_cons_zero, List.take_succ_eq_append_getElem h, List.append_assoc]
  simp [List.getD, h]
set_option maxHeartbeats 2000000 in
set_option maxRecDepth 100000 in
theorem ownNIt_any (va : Value) (xs : List It) (w : World) (ha : RdG itf 5 w va xs) (hl : xs.length ≤ 1048576) (hs : ∀ p ∈ xs, p.2.1.size ≤ 1048576) :
    Calls Try.prog 85 #[va] w fun e w' => ∃ g, e = .returned (.slice (some ⟨g, 0, none⟩) xs.length xs.length) ∧ OwnG itf 5 82 w' w.heap.size (.slice (some ⟨g, 0, none⟩) xs.length xs.length) xs ∧ Below w.heap.size w w' := by
  obtain ⟨i0, hi, hz0, hz1, hz2⟩ := info_parts (itYN).inf
  rcases rdG_cases ha with ⟨h0, ao, cap, rfl⟩ | ⟨hp, b, off, cap, rfl, _, hlt, hc⟩
  · subst h0
    clear ha
    go_enter Try.func85, Try.ntmps85
    go_wp2_with (at_make; refine wpList_make_full _ rfl _ _ 118 rfl w.heap.size 82 i0 (.agg #[.int .i64 0, .string ⟨#[]⟩, .int .i64 0, .int .i64 0, .bool false]) 5 (itYN).und hi hz0 hz1 _ _ _ _ 0 rfl rfl (by omega) (by omega) (by omega) (by decide) ?c0 ?_)
    case c0 => exact Nat.le_refl _
    intro w0 hmade hg0
    have hb0 : Below w.heap.size w w0 := (Below.refl _ _).grown hg0 (Nat.le_refl _) (fun k hk => by cases hk)
    have hmade2 : w0.ownsRow w.heap.size 82 5 (.slice (some ⟨w.heap.size, 0, none⟩) 0 0) 0 (rowC itf []) := by
      have h := hmade
      simpa [madeCells, rowC] using h
    clear hg0 hmade
    go_wp2
    refine wp_loop_rounds 1 ?_
    rw [rounds_succ]
    go_wp2
    go_ret
    exact ⟨_, rfl, hmade2, hb0⟩
  · obtain ⟨n, hn⟩ : ∃ n, n = xs.length := ⟨_, rfl⟩
    have HA := Lib.hid hc
    have HSD : Hid (∀ i, i < xs.length → (fun p : It => p.2.1.size ≤ 1048576) (xs.getD i it0)) := fun i hi => by
      rw [getD_it hi]
      exact hs _ (List.getElem_mem hi)
    clear hs
    have HO9 : Hid (∀ (v : Value) (w9 : World), w9.ownsRow w.heap.size 82 5 v n (rowC itf xs) → OwnG itf 5 82 w9 w.heap.size v xs) := fun v w9 h => by rw [OwnG, ← hn]; exact h
    rw [← hn] at hp hl ⊢
    have HN : Hid (n = xs.length) := hn
    have mo := fun z W => meth_ownIt z W
    clear hc ha hn
    go_enter Try.func85, Try.ntmps85
    go_wp2_with (at_make; refine wpList_make_full _ rfl _ _ 118 rfl w.heap.size 82 i0 (.agg #[.int .i64 0, .string ⟨#[]⟩, .int .i64 0, .int .i64 0, .bool false]) 5 (itYN).und hi hz0 hz1 _ _ _ _ n rfl rfl rfl rfl (by rw [hz2]; omega) (by unfold maxLen; omega) ?c1 ?_)
    try case c1 => exact Nat.le_refl _
    intro w0 hmade hg0
    have hb0 : Below w.heap.size w w0 := (Below.refl _ _).grown hg0 (Nat.le_refl _) (fun k hk => by cases hk)
    have hm2 : w0.ownsRow w.heap.size 82 5 (.slice (some ⟨w.heap.size, 0, none⟩) n n) n (rowC itf (xs.take 0 ++ List.replicate (n - 0) it0)) := by
      have h := hmade
      have e9 := made_G itW (itYN).zero n
      first | rw [e9] at h | (simp only [Value.cells] at e9; rw [e9] at h)
      simpa using h
    clear hg0 hmade
    go_wp2
    go_loopw [11] (fun i wr => ∃ k : Nat, k ≤ n ∧ i = .int .i64 k ∧ wr.ownsRow w.heap.size 82 5 (.slice (some ⟨w.heap.size, 0, none⟩) n n) n (rowC itf (xs.take k ++ List.replicate (n - k) it0)) ∧ Hid (Below w.heap.size w wr)) (fun i _ => n - (intOf i).toNat)
    case atStart => exact ⟨0, Nat.zero_le _, rfl, hm2, hb0⟩
    case round =>
      rename World => w1
      obtain ⟨k, hk, rfl, ho, hb⟩ := hrel
      clear hb0 hm2
      have hs1 := hb.out.size
      by_cases hltk : k < n
      · have hkx : k < xs.length := by have := HN.out; omega
        obtain ⟨d0, d1, d2, d3, d4⟩ := it_cells (cellsG_below HA.out hlt hb.out) hkx
        have hll : (xs.take k ++ List.replicate (n - k) it0).length = n := by rw [List.length_append, List.length_take, List.length_replicate]; omega
        have hlc : (rowC itf (xs.take k ++ List.replicate (n - k) it0)).length = n * 5 := by rw [rowC_len itW, hll]
        have hset := it_set (xs.take k ++ List.replicate (n - k) it0) k (xs.getD k it0) (by omega)
        rw [copiedIt hkx hltk it0] at hset
        have hsd := HSD.out k hkx
        obtain ⟨x, hxx⟩ : ∃ x, x = xs.getD k it0 := ⟨_, rfl⟩
        rw [← hxx] at d0 d1 d2 d3 d4 hset hsd
        obtain ⟨x1, x2, x3, x4, x5⟩ := x
        simp only at d0 d1 d2 d3 d4 hset hsd
        have HSET := Lib.hid hset
        clear hxx hset
        have hcall := Lib.hid (fun W => ownIt_any x1 x2 x3 x4 x5 W hsd)
        go_wp2_with fail
        refine (hcall.out _).mono ?_
        rintro e w2 ⟨rfl, hb2⟩
        have hb3 : Below w1.heap.size w1 w2 := by
          have h : Below w1.heap.size w1 (w1.alloc (.cells #[.int .i64 x1, .string x2, .int .i64 x3, .int .i64 x4, .bool x5] 82)) := (Below.refl _ _).alloc (Nat.le_refl _) _
          exact h.trans (hb2.mono h.size)
        have ho2 := owns_below ho hb3
        have HB2 := Lib.hid (hb.out.trans (hb3.mono hs1))
        have f0 := ho2.cellAt (k * 5) (by omega)
        have f1 := ho2.cellAt (k * 5 + 1) (by omega)
        have f2 := ho2.cellAt (k * 5 + 2) (by omega)
        have f3 := ho2.cellAt (k * 5 + 3) (by omega)
        have f4 := ho2.cellAt (k * 5 + 4) (by omega)
        have z0 := ho2.frozenAt (k * 5)
        have z1 := ho2.frozenAt (k * 5 + 1)
        have z2 := ho2.frozenAt (k * 5 + 2)
        have z3 := ho2.frozenAt (k * 5 + 3)
        have z4 := ho2.frozenAt (k * 5 + 4)
        obtain ⟨u0, hu0⟩ : ∃ u0, (rowC itf (xs.take k ++ List.replicate (n - k) it0))[k * 5]? = some u0 := ⟨_, List.getElem?_eq_getElem (by omega)⟩
        rw [hu0] at f0
        obtain ⟨u1, hu1⟩ : ∃ u1, (rowC itf (xs.take k ++ List.replicate (n - k) it0))[k * 5 + 1]? = some u1 := ⟨_, List.getElem?_eq_getElem (by omega)⟩
        rw [hu1] at f1
        obtain ⟨u2, hu2⟩ : ∃ u2, (rowC itf (xs.take k ++ List.replicate (n - k) it0))[k * 5 + 2]? = some u2 := ⟨_, List.getElem?_eq_getElem (by omega)⟩
        rw [hu2] at f2
        obtain ⟨u3, hu3⟩ : ∃ u3, (rowC itf (xs.take k ++ List.replicate (n - k) it0))[k * 5 + 3]? = some u3 := ⟨_, List.getElem?_eq_getElem (by omega)⟩
        rw [hu3] at f3
        obtain ⟨u4, hu4⟩ : ∃ u4, (rowC itf (xs.take k ++ List.replicate (n - k) it0))[k * 5 + 4]? = some u4 := ⟨_, List.getElem?_eq_getElem (by omega)⟩
        rw [hu4] at f4
        have hst1 := ho2.stored (k * 5) (.int .i64 x1)
        have hst2 := hst1.1.stored (k * 5 + 1) (.string x2)
        have hst3 := hst2.1.stored (k * 5 + 2) (.int .i64 x3)
        have hst4 := hst3.1.stored (k * 5 + 3) (.int .i64 x4)
        have hst5 := hst4.1.stored (k * 5 + 4) (.bool x5)
        rw [HSET.out] at hst5
        have HO := Lib.hid hst5.1
        have HG := Lib.hid (grown_trans (grown_trans (grown_trans (grown_trans hst1.2 hst2.2) hst3.2) hst4.2) hst5.2)
        clear hcall hb2 hb3 ho ho2 hst1 hst2 hst3 hst4 hst5 hu0 hu1 hu2 hu3 hu4 hll hlc hb d0 d1 d2 d3 d4
        go_wp2
        go_roundw
        case rel => exact ⟨k + 1, by omega, by go_num, HO.out, HB2.out.grown HG.out HB2.out.size (fun g h => by cases h; exact Nat.le_refl _)⟩
        case measure => simp [intOf]; omega
      · obtain rfl : k = n := by omega
        have hx := HN.out
        rw [List.take_of_length_le (by omega), Nat.sub_self, List.replicate_zero, List.append_nil] at ho
        have HO := Lib.hid (HO9.out _ _ ho)
        clear hx ho
        go_wp2
        go_ret
        exact ⟨_, rfl, by rw [HN.out]; have := HO.out; rwa [HN.out] at this, hb.out⟩
end Go.Proofs.Ytfoncmeplofedaq
