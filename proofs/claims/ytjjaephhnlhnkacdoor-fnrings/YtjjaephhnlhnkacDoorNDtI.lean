/- CONTRACTS: slices.Insert of one impl.Dot into a row that fills its room, the program's with. (Written by numg.py.) -/
import Derived.Test.YtjjaephhnlhnkacDoorNDtF
import Derived.Test.YtjjaephhnlhnkacDoorNDtW
namespace Go.Proofs.YtjjaephhnlhnkacDoor
open Go.RowKit
set_option linter.unusedVariables false
theorem intTDt : Tryd.prog.underlying 3 = some (.int .i64) := Tryd.underlying3
set_option maxHeartbeats 1000000 in
set_option maxRecDepth 100000 in
theorem insertDt_any (B g h n k : Nat) (l : List Dt) (x : Dt) (w : World) (hl : l.length = n) (hown : w.ownsRow B 51 2 (.slice (some ⟨g, 0, none⟩) n n) n (rowC dtf l)) (hx : ∀ j u, (rowC dtf [x])[j]? = some u → w.cell? ((⟨h, 0, none⟩ : Addr).add j) = some u) (hhs : h < w.heap.size) (hk : k ≤ n) (hn : n ≤ 1048570) (hB : B ≤ w.heap.size) :
    Calls Tryd.prog 61 #[.slice (some ⟨g, 0, none⟩) n n, .int .i64 (k : Int), .slice (some ⟨h, 0, none⟩) 1 1] w fun e w' => ∃ v, e = .returned v ∧ OwnG dtf 2 51 w' B v (l.take k ++ [x] ++ l.drop k) ∧ w.grownBy w' (some g) := by
  have htn := (dtYN).ty dtW
  have ht := (dtY).ty dtW
  by_cases hkn : k = n
  · subst hkn
    have hsl : ∀ W : World, (Instr.slice 48 (.slice (some ⟨g, 0, none⟩) k k) (some (.int .i64 (k : Int))) none none).run Tryd.prog W = .ok (sliced (some ⟨g, 0, none⟩) k k k 2) W := fun W => by
      rw [run_slice_l W 48 _ _ k (by rw [elem_G htn]; exact htn.und) .i64 _ (by omega) (by omega), elem_G htn, size_G htn]
      simp [Result.andThen]
    have hown' : OwnG dtf 2 51 w B (.slice (some ⟨g, 0, none⟩) k k) l := by rw [OwnG, hl]; exact hown
    have hrd : RdG dtf 2 w (.slice (some ⟨h, 0, none⟩) 1 1) [x] := ⟨_, 1, rfl, Nat.le_refl _, fun _ => ⟨h, 0, rfl, hhs, fun i hi j u hu => by
      obtain rfl : i = 0 := by simpa using hi
      have h9 := hx j u (by rw [rowC_cons, rowC_nil, List.append_nil]; exact hu)
      rw [Addr.add_lit] at h9
      rw [Nat.zero_mul, Nat.zero_add]
      rw [Nat.zero_add] at h9
      exact h9⟩⟩
    obtain ⟨v', w', hr, ho, hg, _⟩ := append_G htn dtW w 48 B _ _ l [x] hown' hrd (by simp; omega) hB
    rw [← append_two htn ht] at hr
    have e : l.take k ++ [x] ++ l.drop k = l ++ [x] := by rw [List.take_of_length_le (by omega), List.drop_of_length_le (by omega), List.append_nil]
    rw [e]
    have HR := Lib.hid hr
    have HO := Lib.hid ho
    generalize l ++ [x] = R at HO ⊢
    clear hown hx e hr hown' hrd ho hl
    go_enter Tryd.func61, Tryd.ntmps61
    go_wp2_with (at_builtin; refine Lib.wpList_append_run _ rfl _ _ _ _ rfl _ _ rfl rfl _ _ HR.out ?_)
    go_wp2
    go_ret
    exact ⟨_, rfl, HO.out, hg⟩
  · have hkn : k < n := by omega
    obtain ⟨hw, hgB⟩ := heap_of_G dtW hown
    have hgl := (hown.lt g rfl).2
    obtain ⟨z, hz⟩ : ∃ z : Nat, (n : Int) + 1 - (k : Int) = (z : Int) := ⟨n + 1 - k, by omega⟩
    obtain ⟨C, w1, M, hge, hr, hC, hML, hMt, hh1, hb1, hs1⟩ := append_zerosG dtYN dtW intTDt w 48 g n k z l hl hw (by omega) (by omega) (by omega)
    obtain ⟨q, hq⟩ : ∃ q, q = w.heap.size := ⟨_, rfl⟩
    have hh1' : w1.heap[q]? = some (.cells (rowC dtf M).toArray 51 (0, 0)) := by rw [hq]; exact hh1
    have hgq : g < q := by omega
    have hx1 : ∀ j u, (rowC dtf [x])[j]? = some u → w1.cell? ((⟨h, 0, none⟩ : Addr).add j) = some u := fun j u hu => by
      have h9 := hx j u hu
      rw [Addr.add_lit] at h9 ⊢
      exact (hb1.cell (p := ⟨h, 0 + j, none⟩) (World.block_lt_of_cell? w _ h9)).trans h9
    have hc1 := fun sT ty => copy_G htn dtW w1 sT ty q k (n + 1 - k) (C - k) ⟨h, 0, none⟩ 1 1 M [x] hh1' (by have h9 : min 1 (n + 1 - k) = 1 := Nat.min_eq_left (by omega); exact h9.symm) hx1 (by show k + 1 ≤ _; omega)
    obtain ⟨M2, hM2⟩ : ∃ M2, M2 = M.take k ++ [x] ++ M.drop (k + [x].length) := ⟨_, rfl⟩
    rw [← hM2] at hc1
    have hM2l : M2.length = C := by rw [hM2]; simp; omega
    have hM2t : M2.take (k + 1) = l.take k ++ [x] := by
      rw [hM2, hMt, List.append_assoc, ← List.append_assoc]
      rw [List.take_append_of_le_length (by simp; omega), List.take_of_length_le (by simp; omega)]
    obtain ⟨w2, hw2⟩ : ∃ w2, w2 = w1.setRow q (rowC dtf M2).toArray := ⟨_, rfl⟩
    rw [← hw2] at hc1
    have hh2 : w2.heap[q]? = some (.cells (rowC dtf M2).toArray 51 (0, 0)) := by rw [hw2]; exact setRow_heap w1 q _ _ 51 _ hh1'
    have hg2 : w2.heap[g]? = some (.cells (rowC dtf l).toArray 51 (0, 0)) := by
      rw [hw2, setRow_other _ _ _ _ (by omega)]
      exact (hb1.block g hgl).trans hw
    have hsrc2 : ∀ j u, (rowC dtf (l.drop k))[j]? = some u → w2.drew.cell? ((⟨g, k * 2, none⟩ : Addr).add j) = some u := fun j u hu => by
      rw [Addr.add_lit]
      show w2.cell? _ = _
      rw [cell_of_row w2 g (k * 2 + j) _ _ (0, 0) hg2]
      rw [← rowC_drop dtW l k (by omega), List.getElem?_drop] at hu
      rw [List.getElem?_toArray]
      exact hu
    have hc2 := fun sT ty => copy_G htn dtW w2.drew sT ty q (k + 1) (n - k) (C - (k + 1)) ⟨g, k * 2, none⟩ (n - k) (n - k) M2 (l.drop k) hh2 (by rw [List.length_drop, hl]; have h9 : min (n - k) (n - k) = n - k := Nat.min_eq_left (by omega); exact h9.symm) hsrc2 (by rw [List.length_drop]; omega)
    obtain ⟨M3, hM3⟩ : ∃ M3, M3 = M2.take (k + 1) ++ l.drop k ++ M2.drop (k + 1 + (l.drop k).length) := ⟨_, rfl⟩
    rw [← hM3] at hc2
    have hM3l : M3.length = C := by rw [hM3]; simp; omega
    have hM3t : M3.take (n + 1) = l.take k ++ [x] ++ l.drop k := by
      rw [hM3, hM2t]
      rw [List.take_append_of_le_length (by simp; omega), List.take_of_length_le (by simp; omega)]
    obtain ⟨w3, hw3⟩ : ∃ w3, w3 = w2.drew.setRow q (rowC dtf M3).toArray := ⟨_, rfl⟩
    rw [← hw3] at hc2
    have hh3 : w3.heap[q]? = some (.cells (rowC dtf M3).toArray 51 (0, 0)) := by rw [hw3]; exact setRow_heap w2.drew q _ _ 51 _ hh2
    have hgr : w.grownBy w3 (some g) := by
      refine ⟨?_, ?_, ?_, ?_, fun i hi _ => ?_⟩
      · rw [hw3, hw2]; exact hb1.os
      · rw [hw3, hw2]; exact hb1.tape
      · rw [hw3, hw2]; exact hb1.output
      · rw [hw3, hw2]
        show w.heap.size ≤ ((w1.setRow q (rowC dtf M2).toArray).drew.setRow q (rowC dtf M3).toArray).heap.size
        simp [World.setRow, World.drew]
        omega
      · rw [hw3, setRow_other _ _ _ _ (by omega)]
        show w2.heap[i]? = _
        rw [hw2, setRow_other _ _ _ _ (by omega)]
        exact hb1.block i hi
    have HO : Hid (OwnG dtf 2 51 w3 B (.slice (some ⟨q, 0, none⟩) (n + 1) C) (l.take k ++ [x] ++ l.drop k)) := by
      have hlr : (l.take k ++ [x] ++ l.drop k).length = n + 1 := by simp; omega
      refine ⟨by rw [rowC_len dtW], Or.inr ⟨q, C, _, by rw [hlr], by omega, hh3, by rw [hlr]; exact hge, hC, by rw [List.size_toArray, rowC_len dtW, hM3l], ?_⟩⟩
      rw [hlr, ← hM3t]
      exact rowC_take dtW M3 (n + 1) (by omega)
    have HG := Lib.hid hgr
    have hs1 := fun W => slG_to htn W g n k (by omega) (by omega)
    have hs2 := fun W => slG_from htn W q (n + 1) C k (by omega) (by omega) hge hC
    have hs3 := fun W => slG_from htn W q (n + 1) C (k + 1) (by omega) (by omega) hge hC
    have hs4 := fun W => slG_from htn W g n n k hkn (by omega) (Nat.le_refl _) (by unfold maxLen; omega)
    have e1 : ((k + 1 : Nat) : Int) = (k : Int) + 1 := rfl
    have e2 : ((n + 1 : Nat) : Int) = (n : Int) + 1 := rfl
    rw [e1] at hs3
    rw [← hq] at hr
    have HR := Lib.hid hr
    generalize l.take k ++ [x] ++ l.drop k = R at HO ⊢
    clear hown hx hr hh1 hh1' hx1 hw2 hw3 hh2 hh3 hgr hM2l hM2t hM3l hM3t hM3 hM2 hsrc2 hg2 hb1 hMt hML hw hl e1 e2 hq htn ht
    go_enter Tryd.func61, Tryd.ntmps61
    go_wp2_with (at_builtin; refine Lib.wpList_append_run _ rfl _ _ _ _ rfl _ _ rfl rfl _ _ HR.out ?_)
    go_region
    go_wp2
    go_ret
    exact ⟨_, rfl, HO.out, HG.out⟩
theorem one_atDt (w : World) (x : Dt) (e : TypeId) : ∀ j u, (rowC dtf [x])[j]? = some u → (w.alloc (.cells (dtf x).toArray e)).cell? ((⟨w.heap.size, 0, none⟩ : Addr).add j) = some u := fun j u hu => by
  rw [Addr.add_lit, Nat.zero_add, cell_of_row _ w.heap.size j _ _ (0, 0) (heap_alloc_new w _), List.getElem?_toArray]
  rw [rowC_cons, rowC_nil, List.append_nil] at hu
  exact hu
set_option maxHeartbeats 2000000 in
set_option maxRecDepth 100000 in
/-- one more, ahead of the first that is not below it -/
theorem withDt_any (va : Value) (l : List Dt) (x1 : Int) (x2 : Int) (w : World) (ha : RdG dtf 2 w va l) (hl : l.length ≤ 1048570) (hr : RiseN (fun j => (l.getD j dt0).1) l.length) (R : List Dt) (hR : ∀ k, k ≤ l.length → (∀ j, j < k → (l.getD j dt0).1 < x1) → (∀ j, k ≤ j → j < l.length → x1 ≤ (l.getD j dt0).1) → R = l.take k ++ [(x1, x2)] ++ l.drop k) :
    Calls Tryd.prog 55 #[va, .agg #[.int .i64 x1, .int .i64 x2]] w fun e w' => ∃ v, e = .returned v ∧ OwnG dtf 2 51 w' w.heap.size v R ∧ Below w.heap.size w w' := by
  have mn := fun z W => meth_numberDt z W
  have mo := fun z W => meth_ownDt z W
  have ba : Below w.heap.size w (w.alloc (.cells #[.int .i64 x1, .int .i64 x2] 51)) := (Below.refl _ _).alloc (Nat.le_refl _) _
  have hnum := numberDt_any x1 x2 (w.alloc (.cells #[.int .i64 x1, .int .i64 x2] 51))
  have hbx := heap_alloc_new w (.cells #[.int .i64 x1, .int .i64 x2] 51)
  have HPL : Hid (∀ w', Below w.heap.size w w' → Calls Tryd.prog 27 #[va, .int .i64 x1] w' fun e w'' => ∃ (k : Nat) (fd : Bool), e = .returned (.tuple #[.int .i64 (k : Int), .bool fd]) ∧ (k ≤ l.length ∧ R = l.take k ++ [(x1, x2)] ++ l.drop k) ∧ Below w'.heap.size w' w'') := fun w' h => by
    refine (placeDt_any va l x1 w' (rdG_below ha h) (by omega) hr).mono ?_
    rintro e w'' ⟨k, fd, rfl, hp, hb⟩
    exact ⟨k, fd, rfl, ⟨hp.1, hR k hp.1 hp.2.1 hp.2.2.1⟩, hb⟩
  have HOWN : Hid (∀ w', Below w.heap.size w w' → Calls Tryd.prog 31 #[va] w' fun e w'' => ∃ g, e = .returned (.slice (some ⟨g, 0, none⟩) l.length l.length) ∧ w''.ownsRow w'.heap.size 51 2 (.slice (some ⟨g, 0, none⟩) l.length l.length) l.length (rowC dtf l) ∧ Below w'.heap.size w' w'') := fun w' h => ownNDt_any va l w' (rdG_below ha h) (by omega)
  have HIN : Hid (∀ (k : Nat), k ≤ l.length → ∀ (B g : Nat) (w' : World), B ≤ w'.heap.size → w'.ownsRow B 51 2 (.slice (some ⟨g, 0, none⟩) l.length l.length) l.length (rowC dtf l) → R = l.take k ++ [(x1, x2)] ++ l.drop k → Calls Tryd.prog 61 #[.slice (some ⟨g, 0, none⟩) l.length l.length, .int .i64 (k : Int), .slice (some ⟨w'.heap.size, 0, none⟩) 1 1] (w'.alloc (.cells #[.int .i64 x1, .int .i64 x2] 51)) fun e w'' => ∃ v, e = .returned v ∧ OwnG dtf 2 51 w'' B v R ∧ (w'.alloc (.cells #[.int .i64 x1, .int .i64 x2] 51)).grownBy w'' (some g)) := fun k hk B g w' hB ho he => by
    have h := insertDt_any B g w'.heap.size l.length k l (x1, x2) (w'.alloc (.cells #[.int .i64 x1, .int .i64 x2] 51)) rfl (ho.alloc _) (one_atDt w' (x1, x2) _) (by rw [World.size_alloc]; omega) hk (by omega) (by rw [World.size_alloc]; omega)
    rw [← he] at h
    exact h
  obtain ⟨ao, cap, hva⟩ := rdG_shape ha
  obtain ⟨n, hn⟩ : ∃ n, n = l.length := ⟨_, rfl⟩
  rw [← hn] at hva HPL HOWN HIN hl
  clear hn ha hr hR
  subst hva
  go_enter Tryd.func55, Tryd.ntmps55
  go_wp2_with fail
  refine hnum.mono ?_
  rintro e w2 ⟨rfl, hb2⟩
  have B2 := ba.trans (hb2.mono ba.size)
  have hbx2 := (hb2.block w.heap.size (by rw [World.size_alloc]; omega)).trans hbx
  have hz2 := hb2.size
  rw [World.size_alloc] at hz2
  clear ba hb2 hbx hnum
  have hcall := HPL.out w2 B2
  go_wp2_with fail
  refine hcall.mono ?_
  rintro e w3 ⟨k, fd, rfl, ⟨hk, hins⟩, hb3⟩
  have B3 := B2.trans (hb3.mono B2.size)
  have hbx3 := (hb3.block w.heap.size (by omega)).trans hbx2
  have hz3 := hb3.size
  have HINS : Hid (∀ (B g : Nat) (w' : World), B ≤ w'.heap.size → w'.ownsRow B 51 2 (.slice (some ⟨g, 0, none⟩) n n) n (rowC dtf l) → Calls Tryd.prog 61 #[.slice (some ⟨g, 0, none⟩) n n, .int .i64 (k : Int), .slice (some ⟨w'.heap.size, 0, none⟩) 1 1] (w'.alloc (.cells #[.int .i64 x1, .int .i64 x2] 51)) fun e w'' => ∃ v, e = .returned v ∧ OwnG dtf 2 51 w'' B v R ∧ (w'.alloc (.cells #[.int .i64 x1, .int .i64 x2] 51)).grownBy w'' (some g)) := fun B g w' hB ho => HIN.out k hk B g w' hB ho hins
  have HRC : Hid (∀ w', Below w3.heap.size w3 w' → w'.cell? ⟨w.heap.size, 0, none⟩ = some (.int .i64 x1) ∧ w'.cell? ⟨w.heap.size, 1, none⟩ = some (.int .i64 x2)) := fun w' hw' => by
    have h := (hw'.block w.heap.size (by omega)).trans hbx3
    exact ⟨cell_of_row w' w.heap.size 0 _ _ (0, 0) h, cell_of_row w' w.heap.size 1 _ _ (0, 0) h⟩
  have HB0 : Hid (Below w3.heap.size w3 w3.drew) := (Below.refl _ _).drew
  have k0 := HRC.out _ HB0.out
  have hcown := HOWN.out w3.drew B3.drew
  have HB3 := Lib.hid B3
  have hzw : w.heap.size < w3.heap.size := by omega
  clear hcall hb3 B2 B3 hbx2 hbx3 hz2 hz3 hins HIN HPL HOWN hk
  go_wp2
  go_region_held (fun w' : World => w'.cell? ⟨w.heap.size, 0, none⟩ = some (.int .i64 x1) ∧ w'.cell? ⟨w.heap.size, 1, none⟩ = some (.int .i64 x2))
    (first | exact k0 | exact k1 | exact k2 | exact k3 | exact k4 | go_keep)
    (first
    | (go_at_call 31; refine hcown.mono ?_; rintro e u1 ⟨g, rfl, hog, hb1⟩; have HB1 : Hid (Below w3.heap.size w3 u1) := HB0.out.trans (hb1.mono HB0.out.size); have k1 := HRC.out _ HB1.out; have HOG := Lib.hid (owns_base hog (show w3.heap.size ≤ w3.drew.heap.size from Nat.le_refl _)); clear hb1 hog)
    | (go_at_call 97; refine (ownDt_any x1 x2 _).mono ?_; rintro e u2 ⟨rfl, hb2⟩; have HB2 : Hid (Below w3.heap.size w3 u2) := HB1.out.trans (hb2.mono HB1.out.size); have k2 := HRC.out _ HB2.out; have HOG2 := Lib.hid (owns_below HOG.out hb2); have k3 := HRC.out _ (HB2.out.alloc HB2.out.size (.cells #[.int .i64 x1, .int .i64 x2] 51)); have hci := HINS.out w3.heap.size g u2 HB2.out.size HOG2.out; clear hb2)
    | (go_at_call 61; refine hci.mono ?_; rintro e u4 ⟨vr, rfl, ho4, hg4⟩; have HB4 : Hid (Below w3.heap.size w3 u4) := (HB2.out.alloc HB2.out.size _).grown hg4 (by rw [World.size_alloc]; have := HB2.out.size; omega) (fun i h => by have e : g = i := Option.some.inj h; have := (HOG2.out.lt g rfl).1; omega); have k4 := HRC.out _ HB4.out; have HO4 := Lib.hid ho4; clear ho4 hg4))
  all_goals
    go_wp2
    go_ret
    exact ⟨_, rfl, owns_base HO4.out (by omega), HB3.out.trans (HB4.out.mono (by omega))⟩
end Go.Proofs.YtjjaephhnlhnkacDoor
