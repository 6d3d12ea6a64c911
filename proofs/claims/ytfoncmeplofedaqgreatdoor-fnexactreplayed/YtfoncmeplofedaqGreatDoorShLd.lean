/- CONTRACT: the program's laid of a right shelf, of a text that is not too long, with a right stamp. (Written by laidgen.py.) -/
import Derived.Test.YtfoncmeplofedaqGreatDoorBunb
import Derived.Test.YtfoncmeplofedaqGreatDoorTakI
import Derived.Test.YtfoncmeplofedaqGreatDoorShG
import Derived.Test.YtfoncmeplofedaqGreatDoorBuna
namespace Go.Proofs.YtfoncmeplofedaqGreatDoor
open Go.RowKit
set_option linter.unusedVariables false
theorem it_rise {l : List It} (h : storeB (itBs l) = true) : l.Pairwise (fun p q => p.1 < q.1) := by
  have h9 : (l.map itB).Pairwise (fun p q => p.1 < q.1) := (storeB_iff.1 h).2.2
  rw [List.pairwise_map] at h9
  exact h9
theorem it_riseN {l : List It} (h : l.Pairwise (fun p q => p.1 < q.1)) : RiseN (fun j => (l.getD j it0).1) l.length := fun i hi h0 => by
  have h9 := List.pairwise_iff_getElem.1 h (i - 1) i (by omega) hi (by omega)
  show (l.getD (i - 1) it0).1 < (l.getD i it0).1
  rwa [getD_it hi, getD_it (show i - 1 < l.length by omega)]
theorem plc_item {l : List It} {d : Int} {t : ByteArray} {k : Nat} {fd : Bool} (hr : l.Pairwise (fun p q => p.1 < q.1)) (hf : findB (itBs l) d = some (d, t)) (hp : PlcN (fun j => (l.getD j it0).1) l.length d k fd) : k < l.length ∧ (l.getD k it0).1 = d := by
  obtain ⟨p1, p2⟩ := findB_some hf
  obtain ⟨q, hq, e⟩ := List.mem_map.1 p1
  obtain ⟨j, hj, rfl⟩ := List.getElem_of_mem hq
  have hjd : (l.getD j it0).1 = d := by rw [getD_it hj]; exact (congrArg Prod.fst e)
  have hkj : k ≤ j := by
    rcases Nat.lt_or_ge j k with h | h
    · have := hp.2.1 j h
      simp only at this
      omega
    · exact h
  have hkl : k < l.length := by omega
  refine ⟨hkl, ?_⟩
  rcases Nat.lt_or_ge k j with h | h
  · have h1 := hp.2.2.1 k (Nat.le_refl _) hkl
    have h2 := List.pairwise_iff_getElem.1 hr k j hkl hj h
    simp only at h1
    rw [← getD_it hkl, ← getD_it hj] at h2
    omega
  · have : j = k := by omega
    rw [← this]; exact hjd
theorem one_atI (w : World) (x : It) (e : TypeId) : ∀ j u, (rowC itf [x])[j]? = some u → (w.alloc (.cells (itf x).toArray e)).cell? ((⟨w.heap.size, 0, none⟩ : Addr).add j) = some u := fun j u hu => by
  rw [Addr.add_lit, Nat.zero_add, cell_of_row _ w.heap.size j _ _ (0, 0) (heap_alloc_new w _), List.getElem?_toArray]
  rw [rowC_cons, rowC_nil, List.append_nil] at hu
  exact hu
theorem mid_set {l : List It} {k : Nat} (h : k ≤ l.length) (x y : It) : (l.take k ++ [x] ++ l.drop k).set k y = l.take k ++ [y] ++ l.drop k := by
  have e2 : (l.take k).length = k := by rw [List.length_take]; omega
  rw [List.append_assoc, List.set_append_right _ _ (by omega), e2, Nat.sub_self, List.append_assoc]
  rfl
theorem mid_get {l : List It} {k : Nat} (h : k ≤ l.length) (x : It) : (l.take k ++ [x] ++ l.drop k).getD k it0 = x := by
  have e2 : (l.take k).length = k := by rw [List.length_take]; omega
  simp only [List.getD]
  rw [List.append_assoc, List.getElem?_append_right (by omega), e2, Nat.sub_self]
  rfl
set_option maxHeartbeats 8000000 in
set_option maxRecDepth 100000 in
theorem laidM_any (r : Int) (va : Value) (l : List It) (t : ByteArray) (st : Int) (w : World) (ha : RdG itf 5 w va l) (hsh : shelfB r l = true) (ht : t.size ≤ 2000) (hst : 0 ≤ st ∧ st ≤ 100000) :
    Calls Tryz.prog 50 #[.agg #[.int .i64 r, va], .string t, .int .i64 st] w fun e w' => ∃ v, e = .returned (.tuple #[.agg #[.int .i64 r, v], .int .i64 (laidN l t st).2.1, .int .i64 (laidN l t st).2.2]) ∧ OwnI w' w.heap.size v (laidN l t st).1 ∧ Below w.heap.size w w' := by
  have hl3 := shelfB_len hsh
  have hl : l.length ≤ 1048576 := by omega
  have hs2k := shelfB_size hsh
  have hs : ∀ p ∈ l, p.2.1.size ≤ 1048576 := fun p hp => by have := hs2k p hp; omega
  obtain ⟨W2, hW2⟩ : ∃ W2, W2 = (w.alloc (.cells #[.int .i64 r, va] 26)).alloc (.cells #[.int .i64 0, .slice none 0 0] 26) := ⟨_, rfl⟩
  have hb2 : Below w.heap.size w W2 := by
    rw [hW2]; exact ((Below.refl w.heap.size w).alloc (Nat.le_refl _) _).alloc (by rw [alloc_sizeI]; omega) _
  have hs2 : W2.heap.size = w.heap.size + 1 + 1 := by rw [hW2, alloc_sizeI, alloc_sizeI]
  have hA : W2.heap[w.heap.size]? = some (.cells #[.int .i64 r, va] 26 (0, 0)) := by
    rw [hW2, Below.heap_alloc _ _ _ (by rw [alloc_sizeI]; omega)]; exact heap_alloc_new w _
  have hZ : W2.heap[w.heap.size + 1]? = some (.cells #[.int .i64 0, .slice none 0 0] 26 (0, 0)) := by
    rw [hW2]
    have e := heap_alloc_new (w.alloc (.cells #[.int .i64 r, va] 26)) (.cells #[.int .i64 0, .slice none 0 0] 26)
    rw [alloc_sizeI] at e
    exact e
  have HCE : Hid (∀ wr, Below (w.heap.size + 1 + 1) W2 wr → wr.cell? ⟨w.heap.size, 0, none⟩ = some (.int .i64 r) ∧ wr.cell? ⟨w.heap.size, 1, none⟩ = some va ∧ wr.cell? ⟨w.heap.size + 1, 0, none⟩ = some (.int .i64 0) ∧ wr.cell? ⟨w.heap.size + 1, 1, none⟩ = some (.slice none 0 0) ∧ wr.frozen? ⟨w.heap.size + 1, 0, none⟩ = false ∧ wr.frozen? ⟨w.heap.size + 1, 1, none⟩ = false) := fun wr h => by
    have h1 := (h.block w.heap.size (by omega)).trans hA
    have h2 := (h.block (w.heap.size + 1) (by omega)).trans hZ
    exact ⟨cell_of_row wr _ 0 _ _ (0, 0) h1, cell_of_row wr _ 1 _ _ (0, 0) h1, cell_of_row wr _ 0 _ _ (0, 0) h2, cell_of_row wr _ 1 _ _ (0, 0) h2, Lib.frozen_of_heap h2 0, Lib.frozen_of_heap h2 1⟩
  have HFIN : Hid (∀ (w8 : World) (k0 k1 : Value) W3, W3 = (w8.setCell ⟨w.heap.size + 1, 0, none⟩ k0).setCell ⟨w.heap.size + 1, 1, none⟩ k1 → Below (w.heap.size + 1 + 1) W2 w8 → (∀ v L, OwnI w8 (w.heap.size + 1 + 1) v L → OwnI W3 w.heap.size v L) ∧ Below w.heap.size w W3 ∧ W3.heap[w.heap.size + 1]? = some (.cells #[k0, k1] 26 (0, 0))) := fun w8 k0 k1 W3 hW3 hb => by
    subst hW3
    have h2 := (hb.block (w.heap.size + 1) (by omega)).trans hZ
    exact ⟨fun v L ho => own_lower (own_setCell (own_setCell ho (p := ⟨w.heap.size + 1, 0, none⟩) (by show w.heap.size + 1 < _; omega) k0) (p := ⟨w.heap.size + 1, 1, none⟩) (by show w.heap.size + 1 < _; omega) k1) (by omega), ((hb2.trans (hb.mono (by omega))).setCell (p := ⟨w.heap.size + 1, 0, none⟩) (by show w.heap.size ≤ w.heap.size + 1; omega) k0).setCell (p := ⟨w.heap.size + 1, 1, none⟩) (by show w.heap.size ≤ w.heap.size + 1; omega) k1, by simp [World.setCell, Array.getElem?_modify, h2]⟩
  have HLO : Hid (∀ wr, Below (w.heap.size + 1 + 1) W2 wr → Below w.heap.size w wr ∧ w.heap.size + 1 + 1 ≤ wr.heap.size) := fun wr h => ⟨hb2.trans (h.mono (by omega)), by have := h.size; omega⟩
  have hst1 := (shelfB_iff.1 hsh).2.1
  have hitem := (shelfB_iff.1 hsh).2.2
  have hri := it_rise hst1
  have hput : putI (itBs l) t = putT (itBs l) t := putI_same (fun _ h => by omega)
  have HOW : Hid (∀ W, Below (w.heap.size + 1 + 1) W2 W → Calls Tryz.prog 42 #[va] W fun e w' => ∃ g, e = .returned (.slice (some ⟨g, 0, none⟩) l.length l.length) ∧ Hid (OwnI w' (w.heap.size + 1 + 1) (.slice (some ⟨g, 0, none⟩) l.length l.length) l) ∧ Hid (Below (w.heap.size + 1 + 1) W2 w')) := fun W hW => by
    refine (ownNIt_any va l W (rdG_below ha (HLO.out W hW).1) hl hs).mono ?_
    rintro e w' ⟨g, rfl, ho, hb⟩
    exact ⟨_, rfl, own_lower ho (HLO.out W hW).2, hW.trans (hb.mono (HLO.out W hW).2)⟩
  have HBL : Hid (∀ W, Below (w.heap.size + 1 + 1) W2 W → Calls Tryz.prog 53 #[.agg #[.int .i64 r, va]] W fun e w' => ∃ v, e = .returned v ∧ Hid (RdB w' v (itBs l)) ∧ Hid (Below (w.heap.size + 1 + 1) W2 w')) := fun W hW => by
    refine (implBlobs_any r va l W (rdG_below ha (HLO.out W hW).1) hl).mono ?_
    rintro e w' ⟨v, rfl, h1, h2⟩
    exact ⟨v, rfl, rdB_owns (l := itBs l) (by rw [show (itBs l).length = l.length from List.length_map _]; exact h1), hW.trans (h2.mono (HLO.out W hW).2)⟩
  have hok : storeB (itBs l) = true := hst1
  have htk : takT (itBs l) t = ((putT (itBs l) t).2.1, (putT (itBs l) t).2.2) := by rw [← hput, putI_tak hok]
  have HDG : Hid (∀ W, Calls Tryz.prog 60 #[.string t] W fun e w' => e = .returned (.int .i64 (digest t)) ∧ w' = W) := fun W => implDigest_any t W (by omega)
  have HPU : Hid (∀ (W : World) (v : Value), RdB W v (itBs l) → Below (w.heap.size + 1 + 1) W2 W → Calls Tryz.prog 59 #[v, .agg #[.int .i64 (digest t), .string t]] W fun e w' => e = .returned (.tuple #[.int .i64 (putT (itBs l) t).2.1, .int .i64 (putT (itBs l) t).2.2]) ∧ Hid (Below (w.heap.size + 1 + 1) W2 w')) := fun W v h hW => by
    refine (taking_any v (itBs l) t W h (by rw [show (itBs l).length = l.length from List.length_map _]; exact hl) (by omega) hok).mono ?_
    rintro e w' ⟨rfl, hb⟩
    rw [htk]
    exact ⟨rfl, hW.trans (hb.mono (HLO.out W hW).2)⟩
  clear htk hok
  have HPL : Hid (∀ (W : World) (g : Nat) (d : Int), OwnI W (w.heap.size + 1 + 1) (.slice (some ⟨g, 0, none⟩) l.length l.length) l → Below (w.heap.size + 1 + 1) W2 W → Calls Tryz.prog 61 #[.slice (some ⟨g, 0, none⟩) l.length l.length, .int .i64 d] W fun e w' => ∃ (k : Nat) (fd : Bool), e = .returned (.tuple #[.int .i64 (k : Int), .bool fd]) ∧ Hid (PlcN (fun j => (l.getD j it0).1) l.length d k fd) ∧ Hid (OwnI w' (w.heap.size + 1 + 1) (.slice (some ⟨g, 0, none⟩) l.length l.length) l) ∧ Hid (Below (w.heap.size + 1 + 1) W2 w')) := fun W g d ho hW => by
    refine (placeIt_any _ l d W (rdG_owns itW ho) hl (it_riseN hri)).mono ?_
    rintro e w' ⟨k, fd, rfl, hp, hb⟩
    exact ⟨k, fd, rfl, hp, owns_below ho hb, hW.trans (hb.mono (HLO.out W hW).2)⟩
  have hrd := Lib.hid (fun W => isRound_any st W)
  rw [show isRoundB st = true from decide_eq_true hst] at hrd
  have HLN : Hid (l.length = l.length) := rfl
  rcases put_codes (s := t) hst1 with ⟨h0, _, hf, h300, hpt⟩ | ⟨h0, _, hf, hpt⟩ | ⟨h0, h1, hpt⟩
  · skip
    have et : laidN l t st = (insI l (digest t, t, st, 0, false), digest t, 0) := by unfold laidN; rw [if_pos h0]
    rw [et]
    have hd1 : (putT (itBs l) t).2.1 = digest t := by rw [hpt]
    rw [hd1, h0] at HPU
    have hne : ∀ p ∈ l, p.1 ≠ digest t := fun p hp => findB_none.1 hf (itB p) (List.mem_map_of_mem hp)
    have HFD : Hid (∀ k fd, PlcN (fun j => (l.getD j it0).1) l.length (digest t) k fd → k ≤ l.length ∧ insI l (digest t, t, st, 0, false) = l.take k ++ [(digest t, t, st, 0, false)] ++ l.drop k) := fun k fd hp => by
      refine ⟨hp.1, insI_at hri hne hp.1 hp.2.1 (fun h9 => ?_)⟩
      have h8 := hp.2.2.1 k (Nat.le_refl _) h9
      simp only at h8
      show ¬ (l.getD k it0).1 < digest t
      omega
    have hdi := digest_in t
    have HRN := Lib.hid (raise_new (digest t) t hst.1)
    have HBO := Lib.hid (fun W => blOwn_any (digest t) t W (by omega))
    generalize insI l (digest t, t, st, 0, false) = RL at HFD ⊢
    generalize hdg : digest t = d at hdi HPU HDG HFD HRN HBO ⊢
    have hlen : l.length ≤ 300 := hl3
    have HLL := Lib.hid hlen
    clear et hput hpt hd1 hf hdg h0 hne h300 hlen
    have hdn : (d != 0) = true := by simp; omega
    have hd0 : ¬ d = 0 := by omega
    obtain ⟨y0, y1, y2, y3, y4, y5⟩ := HCE.out _ (Below.refl _ _)
    have hbl := HBL.out W2 (Below.refl _ _)
    rw [hW2] at hbl y0 y1 y2 y3 y4 y5
    obtain ⟨ao, cap, hva⟩ := rdG_shape ha
    have HW := Lib.hid hW2
    clear hA hZ hb2 hs2 ha hW2 hs hsh hs2k hl3 hst1 hitem hri hst hl
    obtain ⟨nl, hnl⟩ : ∃ n, n = l.length := ⟨_, rfl⟩
    rw [← hnl] at hva HOW HPL
    have HNL := Lib.hid hnl
    clear hnl
    subst hva
    clear HBL
    go_enter Tryz.func50, Tryz.ntmps50
    go_wp2_with fail
    refine hbl.mono ?_
    rintro e w4 ⟨vb, rfl, hob, HB5⟩
    rw [← HW.out] at HB5
    clear hbl
    go_wp2_with fail
    refine (HDG.out _).mono ?_
    rintro e w98 ⟨rfl, rfl⟩
    have hpu := HPU.out w98 vb hob.out HB5.out
    clear HPU hob y0 y1 y2 y3 y4 y5 HDG
    go_wp2_with fail
    refine hpu.mono ?_
    rintro e w5 ⟨rfl, HB6⟩
    clear hpu
    go_wp2_with fail
    refine (hrd.out _).mono ?_
    rintro e w99 ⟨rfl, rfl⟩
    obtain ⟨y0, y1, y2, y3, y4, y5⟩ := HCE.out _ HB6.out
    go_wp2_with fail
    refine (shItems_any r _ _).mono ?_
    rintro e w6 ⟨rfl, hb7⟩
    have HB7 := Lib.hid (HB6.out.trans (hb7.mono (HLO.out _ HB6.out).2))
    have hcow := HOW.out w6 HB7.out
    clear hb7 HOW y0 y1 y2 y3 y4 y5
    go_wp2_with fail
    refine hcow.mono ?_
    rintro e w7 ⟨g, rfl, HO7, HB8⟩
    have hpl := HPL.out w7 g (d) HO7.out HB8.out
    clear hcow HPL HO7
    go_wp2_with fail
    refine hpl.mono ?_
    rintro e w8 ⟨k, fd, rfl, HP, HO8, HB9⟩
    clear hpl
    have HPX := Lib.hid (HFD.out k fd (by have h9 := HP.out; rw [HNL.out] at h9; exact h9))
    have hgB := (HO8.out.lt g rfl).1
    have ITM : Hid (∀ (W : World), OwnI W (w.heap.size + 1 + 1) (.slice (some ⟨g, 0, none⟩) nl nl) l → Below (w.heap.size + 1 + 1) W2 W → Calls Tryz.prog 62 #[.slice (some ⟨g, 0, none⟩) nl nl, .int .i64 (k : Int), .slice (some ⟨W.heap.size, 0, none⟩) 1 1] (W.alloc (.cells #[.int .i64 d, .string t, .int .i64 0, .int .i64 0, .bool false] 69)) fun e w' => ∃ g2 cap2, e = .returned (.slice (some ⟨g2, 0, none⟩) (nl + 1) cap2) ∧ Hid (OwnI w' (w.heap.size + 1 + 1) (.slice (some ⟨g2, 0, none⟩) (l.take k ++ [(d, t, 0, 0, false)] ++ l.drop k).length cap2) (l.take k ++ [(d, t, 0, 0, false)] ++ l.drop k)) ∧ Hid (Below (w.heap.size + 1 + 1) W2 w')) := fun W ho hW => by
      have hnl := HNL.out
      have hkl := HPX.out.1
      have h9 := insertIt_any (w.heap.size + 1 + 1) g W.heap.size nl k l (d, t, 0, 0, false) (W.alloc (.cells #[.int .i64 d, .string t, .int .i64 0, .int .i64 0, .bool false] 69)) hnl.symm ((show W.ownsRow _ _ _ _ nl _ by rw [hnl]; have := ho; rw [hnl] at this; exact this).alloc _) (one_atI W (d, t, 0, 0, false) _) (by rw [World.size_alloc]; omega) (by omega) (by have := HLL.out; omega) (by have := (HLO.out W hW).2; rw [World.size_alloc]; omega)
      refine h9.mono ?_
      rintro e w' ⟨v, rfl, hov, hgv⟩
      have hll : (l.take k ++ [((d, t, 0, 0, false) : It)] ++ l.drop k).length = nl + 1 := by rw [List.length_append, List.length_append, List.length_take, List.length_singleton, List.length_drop]; omega
      rcases ownG_cases itW hov with ⟨h0, _⟩ | ⟨g2, cap2, cur, hv, _⟩
      · rw [h0] at hll; simp at hll
      · subst hv
        refine ⟨g2, cap2, by rw [hll], hov, ?_⟩
        exact (hW.alloc (HLO.out W hW).2 _).grown hgv (by have := (HLO.out W hW).2; rw [World.size_alloc]; omega) (fun j e => by rw [← Option.some.inj e]; exact hgB)
    have HRA : Hid (∀ (W : World) (g2 cap9 : Nat), OwnI W (w.heap.size + 1 + 1) (.slice (some ⟨g2, 0, none⟩) (l.take k ++ [(d, t, 0, 0, false)] ++ l.drop k).length cap9) (l.take k ++ [(d, t, 0, 0, false)] ++ l.drop k) → Below (w.heap.size + 1 + 1) W2 W → Calls Tryz.prog 64 #[.pointer (some ⟨g2, k * 5, none⟩), .int .i64 st] W fun e w' => e = .returned (.tuple #[]) ∧ Hid (OwnI w' (w.heap.size + 1 + 1) (.slice (some ⟨g2, 0, none⟩) (nl + 1) cap9) RL) ∧ Hid (Below (w.heap.size + 1 + 1) W2 w')) := fun W g2 cap9 ho hW => by
      have hnl := HNL.out
      have hkl := HPX.out.1
      have hll : (l.take k ++ [((d, t, 0, 0, false) : It)] ++ l.drop k).length = nl + 1 := by rw [List.length_append, List.length_append, List.length_take, List.length_singleton, List.length_drop]; omega
      have h9 := raise_any (w.heap.size + 1 + 1) g2 cap9 k _ st W ho (by omega)
      rw [mid_get hkl, mid_set hkl, HRN.out, ← HPX.out.2, hll] at h9
      have hg2 := (ho.lt g2 rfl).1
      refine h9.mono ?_
      rintro e w' ⟨rfl, hov, hgv⟩
      exact ⟨rfl, hov, hW.grown hgv (HLO.out W hW).2 (fun j e => by rw [← Option.some.inj e]; exact hg2)⟩
    have HBO2 : Hid (∀ W, OwnI W (w.heap.size + 1 + 1) (.slice (some ⟨g, 0, none⟩) nl nl) l → Below (w.heap.size + 1 + 1) W2 W → Calls Tryz.prog 63 #[.agg #[.int .i64 d, .string t]] W fun e w' => e = .returned (.agg #[.int .i64 d, .string t]) ∧ Hid (OwnI w' (w.heap.size + 1 + 1) (.slice (some ⟨g, 0, none⟩) nl nl) l) ∧ Hid (Below (w.heap.size + 1 + 1) W2 w')) := fun W ho hW => by
      refine (HBO.out W).mono ?_
      rintro e w' ⟨rfl, hb⟩
      exact ⟨rfl, owns_below ho hb, hW.trans (hb.mono (HLO.out W hW).2)⟩
    have hbo := HBO2.out w8 HO8.out HB9.out
    have hkn : k < nl + 1 := by have := HPX.out.1; rw [← HNL.out] at this; omega
    have hkI : (k : Int) < ((nl + 1 : Nat) : Int) := by omega
    have hkJ : (k : Int) < (nl : Int) + 1 := by omega
    clear HBO HBO2 HFD HP HO8 HRN HPX HNL
    go_wp2_with fail
    refine hbo.mono ?_
    rintro e w9 ⟨rfl, HO9, HB10⟩
    have hin := ITM.out w9 HO9.out HB10.out
    clear hbo ITM HO9
    go_wp2_with fail
    refine hin.mono ?_
    rintro e w10 ⟨g2, cap2, rfl, HO11, HB11⟩
    have hra := HRA.out w10 g2 cap2 HO11.out HB11.out
    clear hin HRA HO11
    go_wp2_with fail
    refine hra.mono ?_
    rintro e w11 ⟨rfl, HO12, HB12⟩
    clear hra
    obtain ⟨y0, y1, y2, y3, y4, y5⟩ := HCE.out _ HB12.out
    have HF := Lib.hid (fun k0 k1 W3 h => HFIN.out w11 k0 k1 W3 h HB12.out)
    have HO := Lib.hid HO12.out
    clear HCE HFIN HLO
    go_wp2
    refine bodyPost_ret (results_cell_rowT3 (by rfl) _ _ (w.heap.size + 1) 26 _ (0, 0) _ rfl (HF.out _ _ _ rfl).2.2 Tryz.underlying26 rfl shelf_size) rfl ?_
    exact ⟨_, rfl, (HF.out _ _ _ rfl).1 _ _ HO.out, (HF.out _ _ _ rfl).2.1⟩
  · skip
    have et : laidN l t st = (moreL (digest t) st l, digest t, 1) := by unfold laidN; rw [if_neg (by rw [h0]; decide), if_pos h0]
    rw [et]
    have hd1 : (putT (itBs l) t).2.1 = digest t := by rw [hpt]
    rw [hd1, h0] at HPU
    have HFD : Hid (∀ k fd, PlcN (fun j => (l.getD j it0).1) l.length (digest t) k fd → k < l.length ∧ moreL (digest t) st l = l.set k (raiseP st (l.getD k it0))) := fun k fd hp => by
      obtain ⟨h8, h9⟩ := plc_item hri hf hp
      refine ⟨h8, ?_⟩
      rw [raise_more (hitem _ (by rw [getD_it h8]; exact List.getElem_mem h8)), ← moreL_at st hri h8, h9]
    have hdi := digest_in t
    generalize moreL (digest t) st l = RL at HFD ⊢
    generalize hdg : digest t = d at hdi HPU HDG HFD ⊢
    clear et hput hpt hd1 hf hdg h0
    have hdn : (d != 0) = true := by simp; omega
    have hd0 : ¬ d = 0 := by omega
    obtain ⟨y0, y1, y2, y3, y4, y5⟩ := HCE.out _ (Below.refl _ _)
    have hbl := HBL.out W2 (Below.refl _ _)
    rw [hW2] at hbl y0 y1 y2 y3 y4 y5
    obtain ⟨ao, cap, hva⟩ := rdG_shape ha
    have HW := Lib.hid hW2
    clear hA hZ hb2 hs2 ha hW2 hs hsh hs2k hl3 hst1 hitem hri hst hl
    obtain ⟨nl, hnl⟩ : ∃ n, n = l.length := ⟨_, rfl⟩
    rw [← hnl] at hva HOW HPL
    have HNL := Lib.hid hnl
    clear hnl
    subst hva
    clear HBL
    go_enter Tryz.func50, Tryz.ntmps50
    go_wp2_with fail
    refine hbl.mono ?_
    rintro e w4 ⟨vb, rfl, hob, HB5⟩
    rw [← HW.out] at HB5
    clear hbl
    go_wp2_with fail
    refine (HDG.out _).mono ?_
    rintro e w98 ⟨rfl, rfl⟩
    have hpu := HPU.out w98 vb hob.out HB5.out
    clear HPU hob y0 y1 y2 y3 y4 y5 HDG
    go_wp2_with fail
    refine hpu.mono ?_
    rintro e w5 ⟨rfl, HB6⟩
    clear hpu
    go_wp2_with fail
    refine (hrd.out _).mono ?_
    rintro e w99 ⟨rfl, rfl⟩
    obtain ⟨y0, y1, y2, y3, y4, y5⟩ := HCE.out _ HB6.out
    go_wp2_with fail
    refine (shItems_any r _ _).mono ?_
    rintro e w6 ⟨rfl, hb7⟩
    have HB7 := Lib.hid (HB6.out.trans (hb7.mono (HLO.out _ HB6.out).2))
    have hcow := HOW.out w6 HB7.out
    clear hb7 HOW y0 y1 y2 y3 y4 y5
    go_wp2_with fail
    refine hcow.mono ?_
    rintro e w7 ⟨g, rfl, HO7, HB8⟩
    have hpl := HPL.out w7 g (d) HO7.out HB8.out
    clear hcow HPL HO7
    go_wp2_with fail
    refine hpl.mono ?_
    rintro e w8 ⟨k, fd, rfl, HP, HO8, HB9⟩
    clear hpl
    have HPX : Hid (k < l.length ∧ RL = l.set k (raiseP st (l.getD k it0))) := HFD.out k fd (by have h9 := HP.out; rw [HNL.out] at h9; exact h9)
    have hkn : k < nl := by rw [HNL.out]; exact HPX.out.1
    have hkI : (k : Int) < (nl : Int) := by omega
    have HRA : Hid (∀ (W : World) (cap9 : Nat), OwnI W (w.heap.size + 1 + 1) (.slice (some ⟨g, 0, none⟩) nl cap9) l → Calls Tryz.prog 64 #[.pointer (some ⟨g, k * 5, none⟩), .int .i64 st] W fun e w' => e = .returned (.tuple #[]) ∧ OwnI w' (w.heap.size + 1 + 1) (.slice (some ⟨g, 0, none⟩) nl cap9) RL ∧ W.grownBy w' (some g)) := fun W cap9 ho => by
      have h9 := raise_any (w.heap.size + 1 + 1) g cap9 k l st W (by rw [← HNL.out]; exact ho) HPX.out.1
      rw [← HPX.out.2, ← HNL.out] at h9
      exact h9
    have hra := HRA.out w8 nl HO8.out
    have hgB := (HO8.out.lt g rfl).1
    clear HRA HFD HP
    go_wp2_with fail
    refine hra.mono ?_
    rintro e w9 ⟨rfl, ho9, hg9⟩
    have HB10 := Lib.hid (HB9.out.grown hg9 (HLO.out _ HB9.out).2 (fun j e => by rw [← Option.some.inj e]; exact hgB))
    have HO10 := Lib.hid ho9
    clear hra ho9 hg9 HO8
    obtain ⟨y0, y1, y2, y3, y4, y5⟩ := HCE.out _ HB10.out
    have HF := Lib.hid (fun k0 k1 W3 h => HFIN.out w9 k0 k1 W3 h HB10.out)
    have HO := Lib.hid HO10.out
    clear HCE HFIN HLO
    go_wp2
    refine bodyPost_ret (results_cell_rowT3 (by rfl) _ _ (w.heap.size + 1) 26 _ (0, 0) _ rfl (HF.out _ _ _ rfl).2.2 Tryz.underlying26 rfl shelf_size) rfl ?_
    exact ⟨_, rfl, (HF.out _ _ _ rfl).1 _ _ HO.out, (HF.out _ _ _ rfl).2.1⟩
  · have et : laidN l t st = (l, 0, (putT (itBs l) t).2.2) := by unfold laidN; rw [if_neg h0, if_neg h1]
    rw [et]
    have hd0 : (putT (itBs l) t).2.1 = 0 := by rw [hpt]
    rw [hd0] at HPU
    generalize (putT (itBs l) t).2.2 = c at h0 h1 HPU ⊢
    generalize digest t = dgt at HPU HDG
    clear et hput hpt hd0
    have hc0 : (c == 0) = false := by simp [h0]
    have hc1 : (c == 1) = false := by simp [h1]
    obtain ⟨y0, y1, y2, y3, y4, y5⟩ := HCE.out _ (Below.refl _ _)
    have hbl := HBL.out W2 (Below.refl _ _)
    rw [hW2] at hbl y0 y1 y2 y3 y4 y5
    obtain ⟨ao, cap, hva⟩ := rdG_shape ha
    have HW := Lib.hid hW2
    clear hA hZ hb2 hs2 ha hW2 hs hsh hs2k hl3 hst1 hitem hri hst hl
    obtain ⟨nl, hnl⟩ : ∃ n, n = l.length := ⟨_, rfl⟩
    rw [← hnl] at hva HOW HPL
    have HNL := Lib.hid hnl
    clear hnl
    subst hva
    clear HBL
    go_enter Tryz.func50, Tryz.ntmps50
    go_wp2_with fail
    refine hbl.mono ?_
    rintro e w4 ⟨vb, rfl, hob, HB5⟩
    rw [← HW.out] at HB5
    clear hbl
    go_wp2_with fail
    refine (HDG.out _).mono ?_
    rintro e w98 ⟨rfl, rfl⟩
    have hpu := HPU.out w98 vb hob.out HB5.out
    clear HPU hob y0 y1 y2 y3 y4 y5 HDG
    go_wp2_with fail
    refine hpu.mono ?_
    rintro e w5 ⟨rfl, HB6⟩
    clear hpu
    obtain ⟨y0, y1, y2, y3, y4, y5⟩ := HCE.out _ HB6.out
    go_wp2_with fail
    refine (shItems_any r _ _).mono ?_
    rintro e w6 ⟨rfl, hb7⟩
    have HB7 := Lib.hid (HB6.out.trans (hb7.mono (HLO.out _ HB6.out).2))
    have hcow := HOW.out w6 HB7.out
    clear hb7 HOW y0 y1 y2 y3 y4 y5
    go_wp2_with fail
    refine hcow.mono ?_
    rintro e w7 ⟨g, rfl, HO7, HB8⟩
    have hpl := HPL.out w7 g (0) HO7.out HB8.out
    clear hcow HPL HO7
    go_wp2_with fail
    refine hpl.mono ?_
    rintro e w8 ⟨k, fd, rfl, HP, HO8, HB9⟩
    clear hpl
    obtain ⟨y0, y1, y2, y3, y4, y5⟩ := HCE.out _ HB9.out
    have HF := Lib.hid (fun k0 k1 W3 h => HFIN.out w8 k0 k1 W3 h HB9.out)
    have HO := Lib.hid HO8.out
    clear HCE HFIN HLO
    go_wp2
    refine bodyPost_ret (results_cell_rowT3 (by rfl) _ _ (w.heap.size + 1) 26 _ (0, 0) _ rfl (HF.out _ _ _ rfl).2.2 Tryz.underlying26 rfl shelf_size) rfl ?_
    exact ⟨_, rfl, (HF.out _ _ _ rfl).1 _ _ HO.out, (HF.out _ _ _ rfl).2.1⟩
end Go.Proofs.YtfoncmeplofedaqGreatDoor
