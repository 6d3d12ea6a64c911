/- CONTRACT: slices.Insert of one blob into a row that fills its room. -/
import Derived.Test.YtfoncmeplofedaeInsM
import Derived.Lib.AppendZeros
namespace Go.Proofs.Ytfoncmeplofedae
open Go.RowKit
set_option linter.unusedVariables false
set_option maxHeartbeats 1000000 in
set_option maxRecDepth 100000 in
theorem insert_any (B g h n k : Nat) (l : List Bl) (x : Bl) (w : World) (hl : l.length = n) (hown : w.ownsRow B 76 2 (.slice (some ⟨g, 0, none⟩) n n) n (blC l)) (hx : ∀ j u, (blC [x])[j]? = some u → w.cell? ((⟨h, 0, none⟩ : Addr).add j) = some u) (hk : k ≤ n) (hn : n ≤ 1048570) (hB : B ≤ w.heap.size) :
    Calls Try.prog 69 #[.slice (some ⟨g, 0, none⟩) n n, .int .i64 (k : Int), .slice (some ⟨h, 0, none⟩) 1 1] w fun e w' => ∃ v, e = .returned v ∧ w'.ownsRow B 76 2 v (n + 1) (blC (l.take k ++ [x] ++ l.drop k)) ∧ w.grownBy w' (some g) := by
  obtain ⟨i0, hi, hz0, hz1, hz2⟩ := info_parts Try.infoBl
  have hel : Try.prog.elem 74 = 76 := by kernel_rfl
  have hsz : ∀ W : World, (sizeOf 76).run Try.prog W = .ok 2 W := fun W => by simp [sizeOf, typeInfo, hi, hz1]
  obtain ⟨u0, hs0⟩ : ∃ u0, ∀ W : World, (Instr.slice 74 (.slice (some ⟨g, 0, none⟩) n n) (some (.int .i64 (k : Int))) none none).run Try.prog W = .ok u0 W := ⟨sliced (some ⟨g, 0, none⟩) k n n 2, fun W => by
    rw [run_slice_l W 74 _ _ n (by rw [hel]; exact Try.underlying74) .i64 _ (by omega) (by omega), hel, hsz]
    simp [Result.andThen]⟩
  clear hi hz0 hz1 hz2 hel hsz i0
  by_cases hkn : k = n
  · subst hkn
    have HA := Lib.hid (fun ty => append_one w ty B g k h l x hl hown hx (by omega) hB)
    have e : l.take k ++ [x] ++ l.drop k = l ++ [x] := by rw [List.take_of_length_le (by omega), List.drop_of_length_le (by omega), List.append_nil]
    rw [e]
    clear hown hx e
    go_enter Try.func69, Try.ntmps69
    obtain ⟨v', w', hr, ho, hg⟩ := HA.out 74
    have HR : Hid ((Builtin.append_ #[74, 40] 74 #[.slice (some ⟨g, 0, none⟩) k k, .slice (some ⟨h, 0, none⟩) 1 1]).run Try.prog w = .ok v' w') := hr
    clear hr HA
    go_wp2_with (at_builtin; refine Lib.wpList_append_run _ rfl _ _ _ _ rfl _ _ rfl rfl _ _ HR.out ?_)

    go_wp2
    go_ret
    exact ⟨_, rfl, ho, hg⟩
  · clear hs0 u0
    have hkn : k < n := by omega
    have hw := heap_of_owns hown
    have hgl := (hown.lt g rfl).2
    have hgB := (hown.lt g rfl).1
    obtain ⟨z, hz⟩ : ∃ z : Nat, (n : Int) + 1 - (k : Int) = (z : Int) := ⟨n + 1 - k, by omega⟩
    obtain ⟨C, w1, M, hge, hr, hC, hML, hMt, hh1, hb1, hs1⟩ := append_zeros w 74 g n k z l hl hw (by omega) (by omega) (by omega)
    obtain ⟨q, hq⟩ : ∃ q, q = w.heap.size := ⟨_, rfl⟩
    have hh1' : w1.heap[q]? = some (.cells (blC M).toArray 76 (0, 0)) := by rw [hq]; exact hh1
    have hgq : g < q := by omega
    have hx1 : ∀ j u, (blC [x])[j]? = some u → w1.cell? ((⟨h, 0, none⟩ : Addr).add j) = some u := fun j u hu => by
      have h9 := hx j u hu
      rw [Addr.add_lit] at h9 ⊢
      exact (hb1.cell (p := ⟨h, 0 + j, none⟩) (World.block_lt_of_cell? w _ h9)).trans h9
    have hc1 := fun sT ty => copy_blobs w1 sT ty q k (n + 1 - k) (C - k) ⟨h, 0, none⟩ 1 1 M [x] hh1' (by have h9 : min 1 (n + 1 - k) = 1 := Nat.min_eq_left (by omega); exact h9.symm) hx1 (by show k + 1 ≤ _; omega)
    obtain ⟨M2, hM2⟩ : ∃ M2, M2 = M.take k ++ [x] ++ M.drop (k + [x].length) := ⟨_, rfl⟩
    rw [← hM2] at hc1
    have hM2l : M2.length = C := by rw [hM2]; simp; omega
    have hM2t : M2.take (k + 1) = l.take k ++ [x] := by
      rw [hM2, hMt, List.append_assoc, ← List.append_assoc]
      rw [List.take_append_of_le_length (by simp; omega), List.take_of_length_le (by simp; omega)]
    obtain ⟨w2, hw2⟩ : ∃ w2, w2 = w1.setRow q (blC M2).toArray := ⟨_, rfl⟩
    rw [← hw2] at hc1
    have hh2 : w2.heap[q]? = some (.cells (blC M2).toArray 76 (0, 0)) := by rw [hw2]; exact setRow_heap w1 q _ _ 76 _ hh1'
    have hg2 : w2.heap[g]? = some (.cells (blC l).toArray 76 (0, 0)) := by
      rw [hw2, setRow_other _ _ _ _ (by omega)]
      exact (hb1.block g hgl).trans hw
    have hsrc2 : ∀ j u, (blC (l.drop k))[j]? = some u → w2.drew.cell? ((⟨g, k * 2, none⟩ : Addr).add j) = some u := fun j u hu => by
      rw [Addr.add_lit]
      show w2.cell? _ = _
      rw [cell_of_row w2 g (k * 2 + j) _ _ (0, 0) hg2]
      have e : blC l = blC (l.take k) ++ blC (l.drop k) := by rw [← blC_append, List.take_append_drop]
      have e2 : (blC (l.take k)).length = k * 2 := by rw [blC_len, List.length_take, Nat.min_eq_left (by omega)]
      rw [List.getElem?_toArray, e, List.getElem?_append_right (by omega), e2, Nat.add_sub_cancel_left]
      exact hu
    have hc2 := fun sT ty => copy_blobs w2.drew sT ty q (k + 1) (n - k) (C - (k + 1)) ⟨g, k * 2, none⟩ (n - k) (n - k) M2 (l.drop k) hh2 (by rw [List.length_drop, hl]; have h9 : min (n - k) (n - k) = n - k := Nat.min_eq_left (by omega); exact h9.symm) hsrc2 (by rw [List.length_drop]; omega)
    obtain ⟨M3, hM3⟩ : ∃ M3, M3 = M2.take (k + 1) ++ l.drop k ++ M2.drop (k + 1 + (l.drop k).length) := ⟨_, rfl⟩
    rw [← hM3] at hc2
    have hM3l : M3.length = C := by rw [hM3]; simp; omega
    have hM3t : M3.take (n + 1) = l.take k ++ [x] ++ l.drop k := by
      rw [hM3, hM2t]
      rw [List.take_append_of_le_length (by simp; omega), List.take_of_length_le (by simp; omega)]
    obtain ⟨w3, hw3⟩ : ∃ w3, w3 = w2.drew.setRow q (blC M3).toArray := ⟨_, rfl⟩
    rw [← hw3] at hc2
    have hh3 : w3.heap[q]? = some (.cells (blC M3).toArray 76 (0, 0)) := by rw [hw3]; exact setRow_heap w2.drew q _ _ 76 _ hh2
    have hgr : w.grownBy w3 (some g) := by
      refine ⟨?_, ?_, ?_, ?_, fun i hi _ => ?_⟩
      · rw [hw3, hw2]; exact hb1.os
      · rw [hw3, hw2]; exact hb1.tape
      · rw [hw3, hw2]; exact hb1.output
      · rw [hw3, hw2]
        show w.heap.size ≤ ((w1.setRow q (blC M2).toArray).drew.setRow q (blC M3).toArray).heap.size
        simp [World.setRow, World.drew]
        omega
      · rw [hw3, setRow_other _ _ _ _ (by omega)]
        show w2.heap[i]? = _
        rw [hw2, setRow_other _ _ _ _ (by omega)]
        exact hb1.block i hi
    have HO : Hid (w3.ownsRow B 76 2 (.slice (some ⟨q, 0, none⟩) (n + 1) C) (n + 1) (blC (l.take k ++ [x] ++ l.drop k))) := by
      refine ⟨by rw [blC_len]; simp; omega, Or.inr ⟨q, C, _, rfl, by omega, hh3, hge, hC, by simp [blC_len, hM3l], ?_⟩⟩
      have e : blC M3 = blC (M3.take (n + 1)) ++ blC (M3.drop (n + 1)) := by rw [← blC_append, List.take_append_drop]
      show (blC M3).take ((n + 1) * 2) = _
      rw [e, hM3t, List.take_append_of_le_length (by rw [blC_len]; simp; omega), List.take_of_length_le (by rw [blC_len]; simp; omega)]
    have HG := Lib.hid hgr
    have hs1 := fun W => slN_to W g n k (by omega) (by omega)
    have hs2 := fun W => slN_from W q (n + 1) C k (by omega) (by omega) hge hC
    have hs3 := fun W => slN_from W q (n + 1) C (k + 1) (by omega) (by omega) hge hC
    have hs4 := fun W => slN_from W g n n k hkn (by omega) (Nat.le_refl _) (by unfold maxLen; omega)
    have e1 : ((k + 1 : Nat) : Int) = (k : Int) + 1 := rfl
    have e2 : ((n + 1 : Nat) : Int) = (n : Int) + 1 := rfl
    rw [e1] at hs3
    rw [← hq] at hr
    have HR := Lib.hid hr
    generalize l.take k ++ [x] ++ l.drop k = R at HO ⊢
    clear hown hx hr hh1 hh1' hx1 hw2 hw3 hh2 hh3 hgr hM2l hM2t hM3l hM3t hM3 hM2 hsrc2 hg2 hb1 hMt hML hw hl e1 e2 hq
    go_enter Try.func69, Try.ntmps69
    go_wp2_with (at_builtin; refine Lib.wpList_append_run _ rfl _ _ _ _ rfl _ _ rfl rfl _ _ HR.out ?_)
    go_region
    go_wp2
    go_ret
    exact ⟨_, rfl, HO.out, HG.out⟩
end Go.Proofs.Ytfoncmeplofedae
