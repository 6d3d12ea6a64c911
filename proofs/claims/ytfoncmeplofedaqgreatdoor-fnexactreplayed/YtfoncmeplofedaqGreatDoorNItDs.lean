/- CONTRACT: slices.DeleteFunc of a row of impl.Item by impl.Swept$1, in its own room. (Written by numg.py.) -/
import Derived.Test.YtfoncmeplofedaqGreatDoorNItXs
namespace Go.Proofs.YtfoncmeplofedaqGreatDoor
open Go.RowKit
set_option linter.unusedVariables false
set_option maxHeartbeats 4000000 in
set_option maxRecDepth 100000 in
theorem deleteIS_any (B g : Nat) (l : List It) (q q2 bm nm : Nat) (round : Int) (ms : List Int) (D : DataW Unit) (w : World) (hown : w.ownsRow B 69 5 (.slice (some ⟨g, 0, none⟩) l.length l.length) l.length (rowC itf l)) (hl : l.length ≤ 1048576) (hBw : B ≤ w.heap.size) (hmk : Mkd q q2 bm nm round D w) (hhas : Has D ms) (hel : ∀ p ∈ l, -9223372036854775808 ≤ p.1 ∧ p.1 ≤ 9223372036854775807) (hqB : q < B) (hqB2 : q2 < B) (hbB : bm < B) :
    Calls Tryz.prog 86 #[.slice (some ⟨g, 0, none⟩) l.length l.length, .func (.func 68) #[] #[.pointer (some ⟨q, 0, none⟩), .pointer (some ⟨q2, 0, none⟩)]] w fun e w' => ∃ v, e = .returned v ∧ OwnG itf 5 69 w' B v (l.filter fun x => !(goneI round ms) x) ∧ Below B w w' := by
  have hown0 : OwnG itf 5 69 w B (.slice (some ⟨g, 0, none⟩) l.length l.length) l := hown
  have hcall := indexIS_any _ l q q2 bm nm round ms D w (rdG_owns itW hown0) hl hmk hhas hel
  have HEL := Lib.hid hel
  obtain ⟨P, hP⟩ : ∃ P : It → Bool, P = (goneI round ms) := ⟨_, rfl⟩
  have HP := Lib.hid hP
  rw [← hP] at hcall ⊢
  have htg := (itYN).ty itW
  have HFI : Hid (∀ k, k < l.length → (l.take (k + 1)).filter (fun x => !P x) = (l.take k).filter (fun x => !P x) ++ (if (!P (l.getD k it0)) = true then [l.getD k it0] else [])) := fun k hk => filter_next (fun x => !P x) l it0 k hk
  have HFE : Hid ((l.take l.length).filter (fun x => !P x) = l.filter (fun x => !P x)) := by show _ = _; rw [List.take_length]
  have HFL : Hid (∀ k, ((l.take k).filter (fun x => !P x)).length ≤ k) := fun k => Nat.le_trans (List.length_filter_le _ _) (by rw [List.length_take]; omega)
  have HF0 : Hid (∀ k, k ≤ l.length → (∀ j, j < k → P (l.getD j it0) = false) → (l.take k).filter (fun x => !P x) = l.take k) := fun k hk h => filter_none P l it0 k hk h
  have his := idxP_is P it0 l 0
  obtain ⟨F, hF⟩ : ∃ F : Nat → List It, F = fun k => (l.take k).filter (fun x => !P x) := ⟨_, rfl⟩
  have hFk : ∀ k, (l.take k).filter (fun x => !P x) = F k := fun k => by rw [hF]
  simp only [hFk] at HFI HFE HFL HF0
  clear hF hFk hP
  generalize l.filter (fun x => !P x) = R at HFE ⊢
  obtain ⟨n, hn⟩ : ∃ n, n = l.length := ⟨_, rfl⟩
  have HN : Hid (n = l.length) := hn
  generalize idxP P l 0 = r at hcall his
  rcases his with ⟨rfl, hno⟩ | ⟨i0, hi0, rfl, hi1, hi2⟩
  · have HR : Hid (R = l) := by
      have h1 := HF0.out l.length (Nat.le_refl _) hno
      rw [HFE.out, List.take_length] at h1
      exact h1
    have HO9 : Hid (∀ W : World, Below w.heap.size w W → OwnG itf 5 69 W B (.slice (some ⟨g, 0, none⟩) l.length l.length) R) := fun W hW => by rw [HR.out]; exact owns_below hown0 hW
    rw [← hn] at hcall hl HO9 ⊢
    clear hown hown0 hno HFI HFE HFL HF0 hn
    go_enter Tryz.func86, Tryz.ntmps86
    go_wp2_with fail
    refine hcall.mono ?_
    rintro e w2 ⟨rfl, hb2⟩
    have HO := Lib.hid (HO9.out _ hb2)
    have HB := Lib.hid (hb2.mono hBw)
    clear hcall hb2 HO9
    go_wp2
    go_ret
    exact ⟨_, rfl, HO.out, HB.out⟩
  · rw [Nat.zero_add] at hcall
    have hown2 : w.ownsRow B 69 5 (.slice (some ⟨g, 0, none⟩) l.length l.length) l.length (rowC itf l) := hown
    rw [← hn] at hcall hl hown2 HFI HFE hi0 ⊢
    have HFi : Hid (F (i0 + 1) = l.take i0) := by
      show _ = _
      rw [HFI.out i0 hi0, HF0.out i0 (by omega) hi2, hi1]
      simp
    have HLG : Hid (∀ j, j < n → ∀ M : List It, M.getD j it0 = l.getD j it0 → M.length = n → M[j]? = some (l.getD j it0)) := fun j hj M hM hMl => by
      have : j < M.length := by omega
      rw [← hM]; simp [List.getD, this]
    have hi0I : ¬ (i0 : Int) = -1 := by omega
    have hi0J : ((i0 : Int) == -1) = false := by simp [hi0I]
    clear hown hown0 HF0 hn hi1 hi2
    go_enter Tryz.func86, Tryz.ntmps86
    go_wp2_with fail
    refine hcall.mono ?_
    rintro e w2 ⟨rfl, hb2⟩
    have ho2 := owns_below hown2 hb2
    have hB2 : Below B w w2 := hb2.mono hBw
    have hs2 := hb2.size
    clear hcall hb2 hown2
    go_wp2
    go_loopw [5, 6] (fun p j w5 => ∃ (i jn : Nat) (M : List It), i < jn ∧ jn ≤ n ∧ p = .int .i64 i ∧ j = .int .i64 jn ∧ M.length = n ∧ M.take i = F jn ∧ Hid (∀ z, jn ≤ z → z < n → M.getD z it0 = l.getD z it0) ∧ w5.ownsRow B 69 5 (.slice (some ⟨g, 0, none⟩) n n) n (rowC itf M) ∧ w.heap.size ≤ w5.heap.size ∧ Below B w w5) (fun _ j _ => n - (intOf j).toNat)
    case atStart => exact ⟨i0, i0 + 1, l, by omega, by omega, rfl, by go_num, HN.out.symm, by rw [HFi.out], fun z _ _ => rfl, ho2, hs2, hB2⟩
    case round =>
      rename World => w5
      obtain ⟨i, jn, M, hij, hj, rfl, rfl, hMl, hMF, hrest, ho, hsz, hb5⟩ := hrel
      clear hB2 ho2
      have hgB := (ho.lt g rfl).1
      have hgl := (ho.lt g rfl).2
      by_cases hltj : jn < n
      focus
        have hjM : jn < M.length := by omega
        have hlc : (rowC itf M).length = n * 5 := by rw [rowC_len itW, hMl]
        obtain ⟨d0, d1, d2, d3, d4⟩ := it_cells (j := jn) (cellsG_own itW (w := w5) (B := B) (e := 69) (g := g) (cap := n) (l := M) (by rw [hMl]; exact ho)) hjM
        have hFj := HFI.out jn hltj
        have hrj := hrest.out jn (Nat.le_refl _) hltj
        have hrest2 : Hid (∀ z, jn + 1 ≤ z → z < n → M.getD z it0 = l.getD z it0) := fun z h1 h2 => hrest.out z (by omega) h2
        rw [hrj] at d0 d1 d2 d3 d4
        rw [Nat.zero_add] at d0 d1 d2 d3 d4
        have hjl : jn < l.length := by have := HN.out; omega
        have he := HEL.out (l.getD jn it0) (by rw [getD_it hjl]; exact List.getElem_mem hjl)
        clear hjl
        obtain ⟨x, hx⟩ : ∃ x, x = l.getD jn it0 := ⟨_, rfl⟩
        rw [← hx] at d0 d1 d2 d3 d4 hFj he
        obtain ⟨x1, x2, x3, x4, x5⟩ := x
        simp only at d0 d1 d2 d3 d4 hFj he
        clear hx hrest hrj
        have hs5 := hb5.size
        have ba : Below w5.heap.size w5 (w5.alloc (.cells #[.int .i64 x1, .string x2, .int .i64 x3, .int .i64 x4, .bool x5] 69)) := (Below.refl _ _).alloc (Nat.le_refl _) _
        have hbx := heap_alloc_new w5 (.cells #[.int .i64 x1, .string x2, .int .i64 x3, .int .i64 x4, .bool x5] 69)
        have hcq : w5.cell? ⟨q, 0, none⟩ = w.cell? ⟨q, 0, none⟩ := hb5.cell (p := ⟨q, 0, none⟩) hqB
        have e9 : P (x1, x2, x3, x4, x5) = (goneI round ms) (x1, x2, x3, x4, x5) := by rw [HP.out]
        have hcall : Calls Tryz.prog 68 #[.agg #[.int .i64 x1, .string x2, .int .i64 x3, .int .i64 x4, .bool x5], .pointer (some ⟨q, 0, none⟩), .pointer (some ⟨q2, 0, none⟩)] (w5.alloc (.cells #[.int .i64 x1, .string x2, .int .i64 x3, .int .i64 x4, .bool x5] 69)) fun e w' => e = .returned (.bool (P (x1, x2, x3, x4, x5))) ∧ Below (w5.alloc (.cells #[.int .i64 x1, .string x2, .int .i64 x3, .int .i64 x4, .bool x5] 69)).heap.size (w5.alloc (.cells #[.int .i64 x1, .string x2, .int .i64 x3, .int .i64 x4, .bool x5] 69)) w' := by rw [e9]; exact sweptGone_any x1 x2 x3 x4 x5 q q2 bm nm round ms D (w5.alloc (.cells #[.int .i64 x1, .string x2, .int .i64 x3, .int .i64 x4, .bool x5] 69)) (mkd_below (mkd_below hmk hb5 hqB hqB2 hbB) ba (by omega) (by omega) (by omega)) hhas he
        clear e9 hcq
        cases hw : P (x1, x2, x3, x4, x5) with
        | true =>
          rw [hw] at hcall hFj
          have HF2 : Hid (F (jn + 1) = F jn) := by show _ = _; rw [hFj]; simp
          clear hFj hw
          go_wp2_with fail
          refine hcall.mono ?_
          rintro e w7 ⟨rfl, hb7⟩
          have B7 := ba.trans (hb7.mono ba.size)
          have HO7 := Lib.hid (owns_below ho B7)
          have HB7 := Lib.hid (hb5.trans (B7.mono (by omega)))
          have hs7 := B7.size
          clear hcall hb7 B7 ba hbx ho hb5 d0 d1 d2 d3 d4
          go_wp2
          go_roundw
          case rel => exact ⟨i, jn + 1, M, by omega, by omega, rfl, by go_num, hMl, by rw [HF2.out]; exact hMF, hrest2, HO7.out, by omega, HB7.out⟩
          case measure => simp [intOf]; omega
        | false =>
          rw [hw] at hcall hFj
          have HF2 : Hid (F (jn + 1) = F jn ++ [(x1, x2, x3, x4, x5)]) := by show _ = _; rw [hFj]; simp
          clear hFj hw
          go_wp2_with fail
          refine hcall.mono ?_
          rintro e w7 ⟨rfl, hb7⟩
          have hbx7 := (hb7.block w5.heap.size (by rw [World.size_alloc]; omega)).trans hbx
          have B7 := ba.trans (hb7.mono ba.size)
          have ho8 := owns_below ho B7
          have HB7 := Lib.hid (hb5.trans (B7.mono (by omega)))
          have hs7 := B7.size
          have hin : i < n := by omega
          have HCC : Hid (∀ w' : World, w'.heap = w7.heap → w'.cell? ⟨w5.heap.size, 0, none⟩ = some (.int .i64 x1) ∧ w'.cell? ⟨w5.heap.size, 1, none⟩ = some (.string x2) ∧ w'.cell? ⟨w5.heap.size, 2, none⟩ = some (.int .i64 x3) ∧ w'.cell? ⟨w5.heap.size, 3, none⟩ = some (.int .i64 x4) ∧ w'.cell? ⟨w5.heap.size, 4, none⟩ = some (.bool x5)) := fun w' hw' => by
            have h : w'.heap[w5.heap.size]? = some (.cells #[.int .i64 x1, .string x2, .int .i64 x3, .int .i64 x4, .bool x5] 69 (0, 0)) := by rw [hw']; exact hbx7
            exact ⟨cell_of_row w' w5.heap.size 0 _ _ (0, 0) h, cell_of_row w' w5.heap.size 1 _ _ (0, 0) h, cell_of_row w' w5.heap.size 2 _ _ (0, 0) h, cell_of_row w' w5.heap.size 3 _ _ (0, 0) h, cell_of_row w' w5.heap.size 4 _ _ (0, 0) h⟩
          obtain ⟨c0, c1, c2, c3, c4⟩ := HCC.out w7 rfl
          have f0 := ho8.cellAt (i * 5) (by omega)
          have f1 := ho8.cellAt (i * 5 + 1) (by omega)
          have f2 := ho8.cellAt (i * 5 + 2) (by omega)
          have f3 := ho8.cellAt (i * 5 + 3) (by omega)
          have f4 := ho8.cellAt (i * 5 + 4) (by omega)
          have z0 := ho8.frozenAt (i * 5)
          have z1 := ho8.frozenAt (i * 5 + 1)
          have z2 := ho8.frozenAt (i * 5 + 2)
          have z3 := ho8.frozenAt (i * 5 + 3)
          have z4 := ho8.frozenAt (i * 5 + 4)
          obtain ⟨u0, hu0⟩ : ∃ u0, (rowC itf M)[i * 5]? = some u0 := ⟨_, List.getElem?_eq_getElem (by omega)⟩
          rw [hu0] at f0
          obtain ⟨u1, hu1⟩ : ∃ u1, (rowC itf M)[i * 5 + 1]? = some u1 := ⟨_, List.getElem?_eq_getElem (by omega)⟩
          rw [hu1] at f1
          obtain ⟨u2, hu2⟩ : ∃ u2, (rowC itf M)[i * 5 + 2]? = some u2 := ⟨_, List.getElem?_eq_getElem (by omega)⟩
          rw [hu2] at f2
          obtain ⟨u3, hu3⟩ : ∃ u3, (rowC itf M)[i * 5 + 3]? = some u3 := ⟨_, List.getElem?_eq_getElem (by omega)⟩
          rw [hu3] at f3
          obtain ⟨u4, hu4⟩ : ∃ u4, (rowC itf M)[i * 5 + 4]? = some u4 := ⟨_, List.getElem?_eq_getElem (by omega)⟩
          rw [hu4] at f4
          have hst1 := ho8.stored (i * 5) (.int .i64 x1)
          have hst2 := hst1.1.stored (i * 5 + 1) (.string x2)
          have hst3 := hst2.1.stored (i * 5 + 2) (.int .i64 x3)
          have hst4 := hst3.1.stored (i * 5 + 3) (.int .i64 x4)
          have hst5 := hst4.1.stored (i * 5 + 4) (.bool x5)
          have hset := it_set M i (x1, x2, x3, x4, x5) (by omega)
          simp only at hset
          rw [hset] at hst5
          have HO := Lib.hid hst5.1
          have HG := Lib.hid (grown_trans (grown_trans (grown_trans (grown_trans hst1.2 hst2.2) hst3.2) hst4.2) hst5.2)
          have HM2 : Hid ((M.set i (x1, x2, x3, x4, x5)).take (i + 1) = F (jn + 1)) := by show _ = _; rw [take_set_next (by omega), hMF, HF2.out]
          have HR2 : Hid (∀ z, jn + 1 ≤ z → z < n → (M.set i (x1, x2, x3, x4, x5)).getD z it0 = l.getD z it0) := fun z h1 h2 => by
            rw [← hrest2.out z h1 h2]
            rw [List.getD_eq_getElem?_getD, List.getElem?_set_ne (by omega), ← List.getD_eq_getElem?_getD]
          have HLn : Hid ((M.set i (x1, x2, x3, x4, x5)).length = n) := by show _ = _; rw [List.length_set]; exact hMl
          clear hcall hb7 B7 ba hbx hbx7 ho ho8 hb5 d0 d1 d2 d3 d4 HF2 hrest2 hst1 hst2 hst3 hst4 hst5 hu0 hu1 hu2 hu3 hu4 hset hlc hMF hMl hjM
          go_wp2
          go_roundw
          case rel => exact ⟨i + 1, jn + 1, _, by omega, by omega, by go_num, by go_num, HLn.out, HM2.out, HR2, HO.out, by have := HG.out.size; omega, HB7.out.grown HG.out (by omega) (fun y hy => by cases hy; exact hgB)⟩
          case measure => simp [intOf]; omega
      have hjn : jn = n := by omega
      obtain ⟨hw5, _⟩ := heap_of_G itW ho
      obtain ⟨u, hsl, w6, M2, hcl, hM2l, hM2t, hw6, hg6⟩ := clear_G itYN itW w5 g n i M hMl (by omega) (by omega) hw5
      have hst := fun W => slG_to htg W g n i (by omega) (by omega)
      have HO : Hid (OwnG itf 5 69 w6 B (.slice (some ⟨g, 0, none⟩) i n) R) := by
        have h9 := owns_of_G itW (n := i) hgB (by omega) (by omega) hM2l hw6
        rw [hM2t, hMF, hjn, HFE.out] at h9
        exact h9
      have HB : Hid (Below B w w6) := hb5.grown hg6 (by have := hb5.size; omega) (fun y hy => by cases hy; exact hgB)
      clear hw5 hM2l hM2t hw6 hg6 ho hb5 hMF hMl hrest HFE HFI
      go_wp2
      go_ret
      exact ⟨_, rfl, HO.out, HB.out⟩
end Go.Proofs.YtfoncmeplofedaqGreatDoor
