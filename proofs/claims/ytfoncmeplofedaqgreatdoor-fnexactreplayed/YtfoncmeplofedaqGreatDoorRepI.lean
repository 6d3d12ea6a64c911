/- CONTRACT: the program's replay. -/
import Derived.Test.YtfoncmeplofedaqGreatDoorOnI
import Derived.Test.YtfoncmeplofedaqGreatDoorNtm
import Derived.Test.YtfoncmeplofedaqGreatDoorNtBx
import Derived.Test.YtfoncmeplofedaqGreatDoorJouI
import Derived.Test.YtfoncmeplofedaqGreatDoorResC
namespace Go.Proofs.YtfoncmeplofedaqGreatDoor
open Go.RowKit
set_option linter.unusedVariables false
/-- what replay answers: the shelf and the count, or a misfit -/
def RepEnd (L : List Nt) (w : World) (e : Ending) (w' : World) : Prop :=
  (∃ r l c v, playN L 0 [] 0 = some ((r, l), c) ∧ e = .returned (.tuple #[.agg #[.int .i64 r, v], .int .i64 c, .nilIface]) ∧ OwnI w' w.heap.size v l ∧ Below w.heap.size w w') ∨
  (playN L 0 [] 0 = none ∧ ∃ r l c v z, e = .returned (.tuple #[.agg #[.int .i64 r, v], .int .i64 c, .iface 77 (.agg #[.int .i64 z])]) ∧ OwnI w' w.heap.size v l ∧ Below w.heap.size w w')
/-- the world: the result's box at h, the shelf's behind it -/
structure StR (w W : World) (h : Nat) (r : Int) (l : List It) (v : Value) : Prop where
  res : W.heap[h]? = some (.cells #[.int .i64 0, .slice none 0 0] 26 (0, 0))
  box : W.heap[h + 1]? = some (.cells #[.int .i64 r, v] 26 (0, 0))
  own : OwnI W (h + 2) v l
  bel : Below h w W
  big : h + 2 ≤ W.heap.size
theorem stR_below {w W W' : World} {h : Nat} {r : Int} {l : List It} {v : Value} (s : StR w W h r l v) (hb : Below W.heap.size W W') : StR w W' h r l v :=
  ⟨(hb.block h (by have := s.big; omega)).trans s.res, (hb.block (h + 1) (by have := s.big; omega)).trans s.box, owns_below s.own hb, s.bel.trans (hb.mono (by have := s.big; omega)), by have := hb.size; have := s.big; omega⟩
theorem stR_put {w W : World} {h : Nat} {r r' : Int} {l l' : List It} {v v' : Value} (s : StR w W h r l v) (ho : OwnI W (h + 2) v' l') : StR w ((W.setCell ⟨h + 1, 0, none⟩ (.int .i64 r')).setCell ⟨h + 1, 1, none⟩ v') h r' l' v' := by
  have ne : ∀ j : Nat, j ≠ h + 1 → ((W.setCell ⟨h + 1, 0, none⟩ (.int .i64 r')).setCell ⟨h + 1, 1, none⟩ v').heap[j]? = W.heap[j]? := fun j hj => by
    rw [heap_setCell_other _ _ _ _ (by simpa using hj), heap_setCell_other _ _ _ _ (by simpa using hj)]
  have hz : ((W.setCell ⟨h + 1, 0, none⟩ (.int .i64 r')).setCell ⟨h + 1, 1, none⟩ v').heap.size = W.heap.size := by simp [World.setCell]
  refine ⟨(ne h (by omega)).trans s.res, by simp [World.setCell, Array.getElem?_modify, s.box], ?_, (s.bel.setCell (p := ⟨h + 1, 0, none⟩) (by show h ≤ h + 1; omega) _).setCell (p := ⟨h + 1, 1, none⟩) (by show h ≤ h + 1; omega) _, by rw [hz]; exact s.big⟩
  exact own_setCell (own_setCell ho (p := ⟨h + 1, 0, none⟩) (by show h + 1 < _; omega) _) (p := ⟨h + 1, 1, none⟩) (by show h + 1 < _; omega) _
theorem stR_cells {w W : World} {h : Nat} {r : Int} {l : List It} {v : Value} (s : StR w W h r l v) : (W.cell? ⟨h + 1, 0, none⟩ = some (.int .i64 r) ∧ W.cell? ⟨h + 1, 1, none⟩ = some v ∧ W.frozen? ⟨h + 1, 0, none⟩ = false ∧ W.frozen? ⟨h + 1, 1, none⟩ = false) ∧ W.cell? ⟨h, 0, none⟩ = some (.int .i64 0) ∧ W.cell? ⟨h, 1, none⟩ = some (.slice none 0 0) ∧ W.frozen? ⟨h, 0, none⟩ = false ∧ W.frozen? ⟨h, 1, none⟩ = false :=
  ⟨⟨cell_of_row W _ 0 _ _ (0, 0) s.box, cell_of_row W _ 1 _ _ (0, 0) s.box, Lib.frozen_of_heap s.box 0, Lib.frozen_of_heap s.box 1⟩, cell_of_row W _ 0 _ _ (0, 0) s.res, cell_of_row W _ 1 _ _ (0, 0) s.res, Lib.frozen_of_heap s.res 0, Lib.frozen_of_heap s.res 1⟩
theorem stR_end {w W : World} {h : Nat} {r : Int} {l : List It} {v : Value} (s : StR w W h r l v) (k0 k1 : Value) : ((W.setCell ⟨h, 0, none⟩ k0).setCell ⟨h, 1, none⟩ k1).heap[h]? = some (.cells #[k0, k1] 26 (0, 0)) ∧ OwnI ((W.setCell ⟨h, 0, none⟩ k0).setCell ⟨h, 1, none⟩ k1) h v l ∧ Below h w ((W.setCell ⟨h, 0, none⟩ k0).setCell ⟨h, 1, none⟩ k1) :=
  ⟨by simp [World.setCell, Array.getElem?_modify, s.res], own_lower (own_setCell (own_setCell s.own (p := ⟨h, 0, none⟩) (by show h < _; omega) _) (p := ⟨h, 1, none⟩) (by show h < _; omega) _) (by omega), (s.bel.setCell (p := ⟨h, 0, none⟩) (Nat.le_refl _) _).setCell (p := ⟨h, 1, none⟩) (Nat.le_refl _) _⟩
set_option maxHeartbeats 8000000 in
set_option maxRecDepth 100000 in
theorem replay_any (va : Value) (L : List Nt) (w : World) (ha : RdG ntf 3 w va L) (hl : L.length ≤ 1048576) (hs : ∀ p ∈ L, p.2.2.size ≤ 1048576) :
    Calls Tryz.prog 20 #[va] w (RepEnd L w) := by
  obtain ⟨W1, hW1⟩ : ∃ W1, W1 = (w.alloc (.cells #[.int .i64 0, .slice none 0 0] 26)).alloc (.cells #[.int .i64 0, .slice none 0 0] 26) := ⟨_, rfl⟩
  have hst : StR w W1 w.heap.size 0 [] (.slice none 0 0) := by
    have hs1 : W1.heap.size = w.heap.size + 1 + 1 := by rw [hW1, World.size_alloc, World.size_alloc]
    refine ⟨?_, ?_, ownG_nil _ _ _, ?_, by omega⟩
    · rw [hW1, Below.heap_alloc _ _ _ (by rw [World.size_alloc]; omega)]
      exact heap_alloc_new w _
    · rw [hW1]
      have e := heap_alloc_new (w.alloc (.cells #[.int .i64 0, .slice none 0 0] 26)) (.cells #[.int .i64 0, .slice none 0 0] 26)
      rw [World.size_alloc] at e
      exact e
    · rw [hW1]
      exact ((Below.refl w.heap.size w).alloc (Nat.le_refl _) _).alloc (by rw [World.size_alloc]; omega) _
  have HST := Lib.hid hst
  have HW := Lib.hid hW1
  have HRD : Hid (∀ k, k < L.length → (∀ W, Below w.heap.size w W → (∃ b off cap, va = .slice (some ⟨b, off, none⟩) L.length cap ∧ W.cell? ⟨b, off + k * 3, none⟩ = some (.int .i64 (L.getD k nt0).1) ∧ W.cell? ⟨b, off + k * 3 + 1, none⟩ = some (.int .i64 (L.getD k nt0).2.1) ∧ W.cell? ⟨b, off + k * 3 + 2, none⟩ = some (.string (L.getD k nt0).2.2))) ∧ (L.getD k nt0).2.2.size ≤ 1048576) := fun k hk => by
    refine ⟨fun W hW => ?_, ?_⟩
    · rcases rdG_cases ha with ⟨h0, _⟩ | ⟨_, b, off, cap, hv, hcap, hlt, hc⟩
      · rw [h0] at hk; simp at hk
      · exact ⟨b, off, cap, hv, nt_cells (cellsG_below hc hlt hW) hk⟩
    · rw [getD_nt hk]; exact hs _ (List.getElem_mem hk)
  obtain ⟨ao, cap, hva⟩ := rdG_shape ha
  obtain ⟨n, hn⟩ : ∃ n, n = L.length := ⟨_, rfl⟩
  have HN := Lib.hid hn
  rw [← hn] at hva hl HRD
  clear ha hs hn hst hW1
  subst hva
  go_enter Tryz.func20, Tryz.ntmps20
  go_wp2
  rw [← HW.out]
  go_loopw [6, 13] (fun cv i wr => ∃ (k : Nat) (r c : Int) (l : List It) (v : Value), k ≤ n ∧ i = .int .i64 (k : Int) ∧ cv = .int .i64 c ∧ (0 ≤ c ∧ c ≤ k) ∧ Hid (StR w wr w.heap.size r l v) ∧ Hid (playN L 0 [] 0 = playN (L.drop k) r l c) ∧ Hid (shelfB r l = true)) (fun _ i _ => n - (intOf i).toNat)
  case atStart => exact ⟨0, 0, 0, [], _, Nat.zero_le _, rfl, rfl, ⟨by decide, by decide⟩, HST.out, by show _ = _; rw [List.drop_zero], right_empty⟩
  case round =>
    rename World => w1
    obtain ⟨k, r, c, l, v, hk, rfl, rfl, hc, HS, HP, HR⟩ := hrel
    obtain ⟨bo, bc, hvb⟩ := ownG_shape HS.out.own
    obtain ⟨⟨s0, s1, s2, s3⟩, s4, s5, s6, s7⟩ := stR_cells HS.out
    by_cases hkn : k < n
    · obtain ⟨hcl, hsz⟩ := HRD.out k hkn
      obtain ⟨b, off, cap9, hv9, d0, d1, d2⟩ := hcl w1 HS.out.bel
      simp only [Value.slice.injEq] at hv9
      obtain ⟨rfl, _, rfl⟩ := hv9
      have hdrop : L.drop k = (L.getD k nt0) :: L.drop (k + 1) := by
        rw [getD_nt (by have := HN.out; omega)]
        exact List.drop_eq_getElem_cons (by have := HN.out; omega)
      obtain ⟨p, hp⟩ : ∃ p, p = L.getD k nt0 := ⟨_, rfl⟩
      rw [← hp] at d0 d1 d2 hsz hdrop
      obtain ⟨p1, p2, p3⟩ := p
      have hba : Below w1.heap.size w1 (w1.alloc (.cells #[.int .i64 p1, .int .i64 p2, .string p3] 40)) := (Below.refl _ _).alloc (Nat.le_refl _) _
      have HSA := Lib.hid (stR_below HS.out hba)
      have hok := implNoteOk_any p1 p2 p3 (w1.alloc (.cells #[.int .i64 p1, .int .i64 p2, .string p3] 40)) hsz
      have HNB : Hid (∀ W, Below (w1.alloc (.cells #[.int .i64 p1, .int .i64 p2, .string p3] 40)).heap.size (w1.alloc (.cells #[.int .i64 p1, .int .i64 p2, .string p3] 40)) W → W.heap[w1.heap.size]? = some (.cells (ntC (p1, p2, p3)) 40 (0, 0))) := fun W h => (h.block w1.heap.size (by rw [World.size_alloc]; omega)).trans (heap_alloc_new w1 _)
      subst hvb
      clear hp hcl hba
      cases hnb : noteB (p1, p2, p3) with
      | false =>
        have HE : Hid (playN L 0 [] 0 = none) := by show _ = _; rw [HP.out, hdrop, playN_bad hnb]
        rw [hnb] at hok
        clear hnb hdrop s0 s1 s2 s3 s4 s5 s6 s7
        go_wp2_with fail
        refine hok.mono ?_
        rintro e w2 ⟨rfl, hb2⟩
        have HS2 := Lib.hid (stR_below HSA.out hb2)
        obtain ⟨⟨t0, t1, t2, t3⟩, t4, t5, t6, t7⟩ := stR_cells HS2.out
        have HF := Lib.hid (fun k0 k1 => stR_end HS2.out k0 k1)
        clear hok hb2 d0 d1 d2
        go_wp2
        refine bodyPost_ret (results_cell_rowT3 (by rfl) _ _ w.heap.size 26 _ (0, 0) _ rfl (HF.out _ _).1 Tryz.underlying26 rfl shelf_size) rfl ?_
        exact Or.inr ⟨HE.out, _, _, _, _, _, rfl, (HF.out _ _).2.1, (HF.out _ _).2.2⟩
      | true =>
        have HE : Hid (playN L 0 [] 0 = playN (L.drop (k + 1)) (onT (p1, p2, p3) r l).1.1 (onT (p1, p2, p3) r l).1.2 (if (onT (p1, p2, p3) r l).2 = true then c + 1 else c)) := by show _ = _; rw [HP.out, hdrop, playN_ok hnb]
        have HRT : Hid (shelfB (onT (p1, p2, p3) r l).1.1 (onT (p1, p2, p3) r l).1.2 = true) := on_right hnb HR.out
        have HON : Hid (∀ W va', RdG itf 5 W va' l → Calls Tryz.prog 37 #[.agg #[.int .i64 p1, .int .i64 p2, .string p3], .agg #[.int .i64 r, va']] W fun e w' => ∃ v, e = .returned (.tuple #[.agg #[.int .i64 (onT (p1, p2, p3) r l).1.1, v], .bool (onT (p1, p2, p3) r l).2]) ∧ OwnI w' W.heap.size v (onT (p1, p2, p3) r l).1.2 ∧ Below W.heap.size W w') := fun W va' h => on_any p1 p2 p3 r va' l W h hnb HR.out
        rw [hnb] at hok
        generalize (onT (p1, p2, p3) r l).1.1 = r9 at HE HRT HON
        generalize (onT (p1, p2, p3) r l).1.2 = l9 at HE HRT HON
        generalize (onT (p1, p2, p3) r l).2 = did at HE HRT HON
        clear hnb hdrop s0 s1 s2 s3 s4 s5 s6 s7
        go_wp2_with fail
        refine hok.mono ?_
        rintro e w2 ⟨rfl, hb2⟩
        have HS2 := Lib.hid (stR_below HSA.out hb2)
        obtain ⟨⟨t0, t1, t2, t3⟩, t4, t5, t6, t7⟩ := stR_cells HS2.out
        obtain ⟨n0, n1, n2, _, _, _⟩ := box_cells (HNB.out w2 hb2)
        have hon := HON.out w2 _ (rdG_owns itW HS2.out.own)
        clear hok hb2 d0 d1 d2 HON HNB
        go_wp2_with fail
        refine hon.mono ?_
        rintro e w3 ⟨v3, rfl, ho3, hb3⟩
        have hbb : Below w3.heap.size w3 (w3.alloc (.cells #[.int .i64 r9, v3] 26)) := (Below.refl _ _).alloc (Nat.le_refl _) _
        have HS3 := Lib.hid (stR_below HS2.out (hb3.trans (hbb.mono hb3.size)))
        have HO3 : Hid (∀ V, V = v3 → OwnI (w3.alloc (.cells #[.int .i64 r9, V] 26)) (w.heap.size + 2) V l9) := fun V h => by rw [h]; exact own_lower (ho3.alloc _) (by have := HS2.out.big; omega)
        obtain ⟨⟨q0, q1, q2, q3⟩, q4, q5, q6, q7⟩ := stR_cells HS3.out
        obtain ⟨o3, c3, hv3⟩ := ownG_shape ho3
        generalize l9.length = nl9 at hv3
        subst hv3
        have HS4 := Lib.hid (stR_put (r' := r9) HS3.out (HO3.out _ rfl))
        clear hon ho3 hb3 hbb t0 t1 t2 t3 t4 t5 t6 t7 n0 n1 n2
        cases did with
        | true =>
          have HE2 : Hid (playN L 0 [] 0 = playN (L.drop (k + 1)) r9 l9 (c + 1)) := HE.out
          go_wp2
          go_roundw
          case rel => exact ⟨k + 1, r9, c + 1, l9, _, by omega, by go_num, by go_num, ⟨by omega, by omega⟩, HS4, HE2, HRT⟩
          case measure => simp [intOf]; omega
        | false =>
          have HE2 : Hid (playN L 0 [] 0 = playN (L.drop (k + 1)) r9 l9 c) := HE.out
          go_wp2
          go_roundw
          case rel => exact ⟨k + 1, r9, c, l9, _, by omega, by go_num, by go_num, ⟨by omega, by omega⟩, HS4, HE2, HRT⟩
          case measure => simp [intOf]; omega
    · have HE : Hid (playN L 0 [] 0 = some ((r, l), c)) := by
        show _ = _
        rw [HP.out, List.drop_of_length_le (by have := HN.out; omega)]
        rfl
      have HF := Lib.hid (fun k0 k1 => stR_end HS.out k0 k1)
      subst hvb
      go_wp2
      refine bodyPost_ret (results_cell_rowT3 (by rfl) _ _ w.heap.size 26 _ (0, 0) _ rfl (HF.out _ _).1 Tryz.underlying26 rfl shelf_size) rfl ?_
      exact Or.inl ⟨r, l, c, _, HE.out, rfl, (HF.out _ _).2.1, (HF.out _ _).2.2⟩
end Go.Proofs.YtfoncmeplofedaqGreatDoor
