/- CONTRACTS: the specification's l13Synced, l13Crashed, l13Swept, each of a shelf that lies in a box (behind a pointer). -/
import Derived.Test.YtfoncmeplofedaqGreatDoorShC
import Derived.Test.YtfoncmeplofedaqGreatDoorHasBig
import Derived.Deep.LoopGhost
import Derived.Deep.RegionHeld
namespace Go.Proofs.YtfoncmeplofedaqGreatDoor
open Go.RowKit
set_option linter.unusedVariables false
/-- a shelf in block B; its row is owned from B0 on -/
structure ShB (B0 B : Nat) (r : Int) (v : Value) (l : List It) (w : World) : Prop where
  box : w.heap[B]? = some (.cells #[.int .i64 r, v] 26 (0, 0))
  own : OwnI w B0 v l
  base : B0 ≤ B
  ne : v.ownBlock ≠ some B
theorem ShB.lt {B0 B : Nat} {r : Int} {v : Value} {l : List It} {w : World} (h : ShB B0 B r v l w) : B < w.heap.size := (Array.getElem?_eq_some_iff.1 h.box).1
theorem ShB.c0 {B0 B : Nat} {r : Int} {v : Value} {l : List It} {w : World} (h : ShB B0 B r v l w) : w.cell? ⟨B, 0, none⟩ = some (.int .i64 r) := cell_of_row w B 0 _ _ (0, 0) h.box
theorem ShB.c1 {B0 B : Nat} {r : Int} {v : Value} {l : List It} {w : World} (h : ShB B0 B r v l w) : w.cell? ⟨B, 1, none⟩ = some v := cell_of_row w B 1 _ _ (0, 0) h.box
set_option maxHeartbeats 2000000 in
set_option maxRecDepth 100000 in
theorem l13Synced_any (B0 B : Nat) (r : Int) (v : Value) (l : List It) (w : World) (h : ShB B0 B r v l w) (hl : l.length ≤ 1048576) :
    Calls Tryz.prog 18 #[.pointer (some ⟨B, 0, none⟩)] w fun e w' => e = .returned (.tuple #[]) ∧ ShB B0 B r v (syncL l) w' ∧ Below B0 w w' := by
  rcases ownG_cases itW h.own with ⟨rfl, rfl⟩ | ⟨g, cap, cur, rfl, hg, hlt, hn, hm, hh, hs, ht, _⟩
  · have hc1 := h.c1
    have HH := Lib.hid h
    clear h
    go_enter Tryz.func18, Tryz.ntmps18
    go_wp2
    refine wp_loop_rounds 1 ?_
    rw [rounds_succ]
    go_wp2
    (try simp only [Exit.inBlock, Exit.then]); refine bodyPost_end (results_none rfl _ _ _) rfl ?_
    exact ⟨rfl, HH.out, Below.refl _ _⟩
  · have HST : Hid (∀ k, k < l.length → ((rowC itf (syncL (l.take k) ++ l.drop k)).set (k * 5 + 3) (.int .i64 (l.getD k it0).2.2.1)).set (k * 5 + 4) (.bool true) = rowC itf (syncL (l.take (k + 1)) ++ l.drop (k + 1))) := fun k hk => by
      have hll : k < (syncL (l.take k) ++ l.drop k).length := by rw [List.length_append, List.length_map, List.length_take, List.length_drop]; omega
      have e2 : (syncL (l.take k)).length = k := by rw [List.length_map, List.length_take]; omega
      have eg : (syncL (l.take k) ++ l.drop k).getD k it0 = l.getD k it0 := by
        simp only [List.getD]
        rw [List.getElem?_append_right (by omega), e2, Nat.sub_self, List.getElem?_drop, Nat.add_zero]
      rw [it_set4 _ _ hll, it_set5 _ _ (by rw [List.length_set]; exact hll), ← sync_step hk, eg, List.set_set]
      congr 1
      have e9 : ((syncL (l.take k) ++ l.drop k).set k ((l.getD k it0).1, (l.getD k it0).2.1, (l.getD k it0).2.2.1, (l.getD k it0).2.2.1, (l.getD k it0).2.2.2.2)).getD k it0 = ((l.getD k it0).1, (l.getD k it0).2.1, (l.getD k it0).2.2.1, (l.getD k it0).2.2.1, (l.getD k it0).2.2.2.2) := by
        simp only [List.getD]
        rw [List.getElem?_set_self hll]
        rfl
      rw [e9]
      rfl
    have HCELL : Hid (∀ k (wr : World), k < l.length → wr.ownsRow B0 69 5 (.slice (some ⟨g, 0, none⟩) l.length cap) l.length (rowC itf (syncL (l.take k) ++ l.drop k)) → wr.cell? ⟨g, k * 5 + 2, none⟩ = some (.int .i64 (l.getD k it0).2.2.1)) := fun k wr hk ho => by
      have e2 : (syncL (l.take k)).length = k := by rw [List.length_map, List.length_take]; omega
      have hll : (syncL (l.take k) ++ l.drop k).length = l.length := by rw [List.length_append, e2, List.length_drop]; omega
      have eg : (syncL (l.take k) ++ l.drop k).getD k it0 = l.getD k it0 := by
        simp only [List.getD]
        rw [List.getElem?_append_right (by omega), e2, Nat.sub_self, List.getElem?_drop, Nat.add_zero]
      have ho2 : OwnI wr B0 (.slice (some ⟨g, 0, none⟩) (syncL (l.take k) ++ l.drop k).length cap) (syncL (l.take k) ++ l.drop k) := by
        show wr.ownsRow B0 69 5 _ (syncL (l.take k) ++ l.drop k).length _
        rw [hll]; exact ho
      have h9 := (it_cells0 (cellsG_own itW ho2) (show k < (syncL (l.take k) ++ l.drop k).length by omega)).2.2.1
      rw [eg] at h9
      exact h9
    have HEND : Hid (syncL (l.take l.length) ++ l.drop l.length = syncL l) := by show _ = _; rw [List.take_length, List.drop_length, List.append_nil]
    have HL0 : Hid (syncL (l.take 0) ++ l.drop 0 = l) := rfl
    have HLEN : Hid (∀ k, k ≤ l.length → (syncL (l.take k) ++ l.drop k).length = l.length) := fun k hk => by rw [List.length_append, List.length_map, List.length_take, List.length_drop]; omega
    have HBOX := Lib.hid h.box
    have hBl := h.lt
    have hbase := h.base
    have hgB : g ≠ B := fun e => h.ne (by rw [e]; rfl)
    have ho0 := h.own
    clear h hh hs ht
    generalize hRL : syncL l = RL at HEND ⊢
    obtain ⟨F, hF⟩ : ∃ F : Nat → List It, F = fun k => syncL (l.take k) ++ l.drop k := ⟨_, rfl⟩
    have hF' : ∀ k, syncL (l.take k) ++ l.drop k = F k := fun k => by rw [hF]
    simp only [hF'] at HST HCELL HEND HL0 HLEN
    rw [← HL0.out] at ho0
    have HFIN : Hid (∀ wr : World, wr.ownsRow B0 69 5 (.slice (some ⟨g, 0, none⟩) l.length cap) l.length (rowC itf (F l.length)) → OwnI wr B0 (.slice (some ⟨g, 0, none⟩) l.length cap) RL) := fun wr ho => by
      rw [HEND.out] at ho
      show wr.ownsRow B0 69 5 _ RL.length _
      rw [← HEND.out, HLEN.out _ (Nat.le_refl _), HEND.out]; exact ho
    have ho1 : w.ownsRow B0 69 5 (.slice (some ⟨g, 0, none⟩) l.length cap) l.length (rowC itf (F 0)) := by
      have h9 := ho0
      have e := HLEN.out 0 (Nat.zero_le _)
      unfold OwnI OwnG at h9
      rw [e] at h9
      exact h9
    have HLC : Hid (∀ k, k ≤ l.length → (rowC itf (F k)).length = l.length * 5) := fun k hk => by rw [rowC_len itW, HLEN.out k hk]
    obtain ⟨n, hnn⟩ : ∃ n, n = l.length := ⟨_, rfl⟩
    rw [← hnn] at HST HCELL HFIN HLC HBOX ho1 hl hn ⊢
    clear hF hF' hRL HL0 ho0 HEND HLEN hnn
    have hc1 : w.cell? ⟨B, 1, none⟩ = some (.slice (some ⟨g, 0, none⟩) n cap) := cell_of_row w B 1 _ _ (0, 0) HBOX.out
    go_enter Tryz.func18, Tryz.ntmps18
    go_wp2
    go_loopw [2] (fun i wr => ∃ k : Nat, k ≤ n ∧ i = .int .i64 (k : Int) ∧ wr.ownsRow B0 69 5 (.slice (some ⟨g, 0, none⟩) n cap) n (rowC itf (F k)) ∧ wr.heap[B]? = some (.cells #[.int .i64 r, .slice (some ⟨g, 0, none⟩) n cap] 26 (0, 0)) ∧ Below B0 w wr) (fun i _ => n - (intOf i).toNat)
    case atStart => exact ⟨0, Nat.zero_le _, rfl, ho1, HBOX.out, Below.refl _ _⟩
    case round =>
      rename World => wr
      obtain ⟨k, hk, rfl, ho, hbx, hb⟩ := hrel
      clear ho1 hc1
      have x1 := cell_of_row wr B 1 _ _ (0, 0) hbx
      simp only [List.getElem?_toArray, List.getElem?_cons_zero, List.getElem?_cons_succ] at x1
      by_cases hltk : k < n
      · have d2 := HCELL.out k wr hltk ho
        have hlc := HLC.out k hk
        have f3 := ho.cellAt (k * 5 + 3) (by omega)
        have f4 := ho.cellAt (k * 5 + 4) (by omega)
        have z3 := ho.frozenAt (k * 5 + 3)
        have z4 := ho.frozenAt (k * 5 + 4)
        obtain ⟨u3, hu3⟩ : ∃ u, (rowC itf (F k))[k * 5 + 3]? = some u := ⟨_, List.getElem?_eq_getElem (by omega)⟩
        obtain ⟨u4, hu4⟩ : ∃ u, (rowC itf (F k))[k * 5 + 4]? = some u := ⟨_, List.getElem?_eq_getElem (by omega)⟩
        rw [hu3] at f3
        rw [hu4] at f4
        have hst1 := ho.stored (k * 5 + 3) (.int .i64 (l.getD k it0).2.2.1)
        have hst2 := hst1.1.stored (k * 5 + 4) (.bool true)
        rw [HST.out k hltk] at hst2
        generalize (l.getD k it0).2.2.1 = st at d2 hst1 hst2
        have HO := Lib.hid hst2.1
        have HG := Lib.hid (grown_trans hst1.2 hst2.2)
        have hkI : (k : Int) < (n : Int) := by omega
        clear hst1 hst2 hu3 hu4 hlc
        have HBX2 := Lib.hid ((HG.out.block B (by have := (Array.getElem?_eq_some_iff.1 hbx).1; exact this) (fun e => hgB (Option.some.inj e).symm)).trans hbx)
        have HB2 := Lib.hid (hb.grown HG.out (by have := hb.size; omega) (fun j e => by rw [← Option.some.inj e]; exact hg))
        clear ho hbx hb HG
        go_wp2_with fail
        go_region_with (fail)
        all_goals (go_wp2; refine ⟨⟨k + 1, by omega, by go_num, HO.out, HBX2.out, HB2.out.drew⟩, ?_⟩; simp [intOf]; omega)
      · obtain rfl : k = n := by omega
        have HO := Lib.hid (HFIN.out _ ho)
        have hkI : ¬ (k : Int) < (k : Int) := by omega
        clear ho
        go_wp2
        (try simp only [Exit.inBlock, Exit.then]); refine bodyPost_end (results_none rfl _ _ _) rfl ?_
        exact ⟨rfl, ⟨hbx, HO.out, hbase, fun e => hgB (Option.some.inj e)⟩, hb⟩
set_option maxHeartbeats 8000000 in
set_option maxRecDepth 100000 in
theorem l13Swept_any (B0 B : Nat) (r : Int) (v : Value) (l : List It) (round : Int) (vm : Value) (ms : List Int) (w : World) (h : ShB B0 B r v l w) (hm : Rd w vm (cellsInt64S ms)) (hl : l.length ≤ 1048576) (hml : ms.length ≤ 4194304) :
    Calls Tryz.prog 17 #[.pointer (some ⟨B, 0, none⟩), .int .i64 round, vm] w fun e w' => e = .returned (.int .i64 (if round < r ∨ 100000 < round then -1 else (l.length : Int) - ((sweptL round ms l).length : Int))) ∧ (∃ v', ShB B0 B (if round < r ∨ 100000 < round then r else round) v' (if round < r ∨ 100000 < round then l else sweptL round ms l) w') ∧ Below B0 w w' := by
  have hdt := itY.ty itW
  have hBl := h.lt
  have hbase := h.base
  have hc0 := h.c0
  have hc1 := h.c1
  by_cases hbad : round < r ∨ 100000 < round
  · rw [if_pos hbad, if_pos hbad, if_pos hbad]
    have HH := Lib.hid h
    clear h hm
    by_cases h1 : round < r
    · clear hbad
      go_enter Tryz.func17, Tryz.ntmps17
      go_wp2
      go_ret
      exact ⟨rfl, ⟨v, HH.out⟩, Below.refl _ _⟩
    · have h2 : 100000 < round := by omega
      clear hbad
      go_enter Tryz.func17, Tryz.ntmps17
      go_wp2
      go_ret
      exact ⟨rfl, ⟨v, HH.out⟩, Below.refl _ _⟩
  rw [if_neg hbad, if_neg hbad, if_neg hbad]
  have hg1 : ¬ round < r := fun e => hbad (Or.inl e)
  have hg2 : ¬ 100000 < round := fun e => hbad (Or.inr e)
  have hs0 : w.heap.size ≤ (w.alloc (.cells #[] 69)).heap.size := by rw [World.size_alloc]; omega
  have ho0 : OwnI (w.alloc (.cells #[] 69)) w.heap.size (.slice (some ⟨w.heap.size, 0, none⟩) 0 0) [] := World.ownsRow_lit (base := w.heap.size) (e := 69) (size := 5) w #[] 0 (Nat.le_refl _) (Nat.zero_le _) rfl
  have hb0 : Below w.heap.size w (w.alloc (.cells #[] 69)) := (Below.refl _ _).alloc (Nat.le_refl _) _
  obtain ⟨ao, cap, hva⟩ := ownG_shape h.own
  have HRD : Hid (∀ k wr, k < l.length → Below w.heap.size w wr → ∃ b off, ao = some ⟨b, off, none⟩ ∧ wr.cell? ⟨b, off + k * 5, none⟩ = some (.int .i64 (l.getD k it0).1) ∧ wr.cell? ⟨b, off + k * 5 + 1, none⟩ = some (.string (l.getD k it0).2.1) ∧ wr.cell? ⟨b, off + k * 5 + 2, none⟩ = some (.int .i64 (l.getD k it0).2.2.1) ∧ wr.cell? ⟨b, off + k * 5 + 3, none⟩ = some (.int .i64 (l.getD k it0).2.2.2.1) ∧ wr.cell? ⟨b, off + k * 5 + 4, none⟩ = some (.bool (l.getD k it0).2.2.2.2)) := fun k wr hk hW => by
    rcases rdG_cases (rdG_owns itW h.own) with ⟨h0, _⟩ | ⟨_, b, off, c2, hv, _, hlt, hc⟩
    · rw [h0] at hk; exact absurd hk (Nat.not_lt_zero _)
    · rw [hva] at hv
      simp only [Value.slice.injEq] at hv
      exact ⟨b, off, hv.1, it_cells (cellsG_below hc hlt hW) hk⟩
  have HBOX : Hid (∀ wr, Below w.heap.size w wr → wr.heap[B]? = some (.cells #[.int .i64 r, v] 26 (0, 0))) := fun wr hW => (hW.block B hBl).trans h.box
  have HFIN : Hid (∀ (wr : World) (v' : Value), Below w.heap.size w wr → OwnI wr w.heap.size v' (sweptL round ms l) → ShB B0 B round v' (sweptL round ms l) ((wr.setCell ⟨B, 1, none⟩ v').setCell ⟨B, 0, none⟩ (.int .i64 round)) ∧ Below B0 w ((wr.setCell ⟨B, 1, none⟩ v').setCell ⟨B, 0, none⟩ (.int .i64 round))) := fun wr v' hW ho => by
    have hx := HBOX.out wr hW
    refine ⟨⟨?_, own_lower (own_setCell (own_setCell ho (p := ⟨B, 1, none⟩) hBl v') (p := ⟨B, 0, none⟩) hBl _) (by omega), hbase, fun e => ?_⟩, ((hW.mono (by omega)).setCell (p := ⟨B, 1, none⟩) hbase v').setCell (p := ⟨B, 0, none⟩) hbase _⟩
    · simp [World.setCell, Array.getElem?_modify, hx]
    · have := (ho.lt B e).1; omega
  have HSN : Hid (∀ k, k < l.length → sweptL round ms (l.take (k + 1)) = sweptL round ms (l.take k) ++ (if stayP round ms (l.getD k it0) = true then [l.getD k it0] else [])) := fun k hk => swept_snoc round ms l k hk
  have HEND : Hid (sweptL round ms (l.take l.length) = sweptL round ms l) := by show _ = _; rw [List.take_length]
  have HLE : Hid (∀ k, (sweptL round ms (l.take k)).length ≤ k) := fun k => Nat.le_trans (swept_len _ _ _) (List.length_take_le _ _)
  have hRle := swept_len round ms l
  have h0 : sweptL round ms (l.take 0) = [] := rfl
  have HST : Hid (∀ p, stayP round ms p = (decide (round ≤ p.2.2.1) || ms.contains p.1)) := fun p => rfl
  have HHAS : Hid (∀ (W : World) (d : Int), Below w.heap.size w W → Calls Tryz.prog 35 #[vm, .int .i64 d] W fun e w' => e = .returned (.bool (ms.contains d)) ∧ w' = W) := fun W d hW => l1Has_big vm ms d W (rd_below hm hW) hml
  rw [← h0] at ho0
  generalize sweptL round ms l = R at HFIN HEND hRle ⊢
  obtain ⟨F, hF⟩ : ∃ F : Nat → List It, F = fun k => sweptL round ms (l.take k) := ⟨_, rfl⟩
  have hF' : ∀ k, sweptL round ms (l.take k) = F k := fun k => by rw [hF]
  simp only [hF'] at HSN HEND HLE ho0
  obtain ⟨n, hnn⟩ : ∃ n, n = l.length := ⟨_, rfl⟩
  rw [← hnn] at HRD HSN HEND hl hva hRle ⊢
  subst hva
  have HHO := Lib.hid ho0
  clear h hF hF' hnn h0 ho0 hm hbad
  go_enter Tryz.func17, Tryz.ntmps17
  go_wp2
  go_loopw [7, 8] (fun v2 i wr => ∃ k : Nat, k ≤ n ∧ i = .int .i64 (k : Int) ∧ OwnI wr w.heap.size v2 (F k) ∧ Below w.heap.size w wr) (fun _ i _ => n - (intOf i).toNat)
  case atStart => exact ⟨0, Nat.zero_le _, rfl, HHO.out, hb0⟩
  case round =>
    rename World => wr
    obtain ⟨k, hk, rfl, ho, hb⟩ := hrel
    clear HHO hb0 hc1 hc0 hs0
    have hbx := HBOX.out wr hb
    have x1 := cell_of_row wr B 1 _ _ (0, 0) hbx
    simp only [List.getElem?_toArray, List.getElem?_cons_zero, List.getElem?_cons_succ] at x1
    have hsb := hb.size
    obtain ⟨bo, bc, hbo⟩ := ownG_shape ho
    subst hbo
    by_cases hltk : k < n
    rotate_left
    · obtain rfl : k = n := by omega
      rw [HEND.out] at ho ⊢
      have hkI : ¬ (k : Int) < (k : Int) := by omega
      have HF := Lib.hid (HFIN.out wr _ hb ho)
      have z1 := Lib.frozen_of_heap hbx 1
      have z0 := Lib.frozen_of_heap hbx 0
      have x0 := cell_of_row wr B 0 _ _ (0, 0) hbx
      simp only [List.getElem?_toArray, List.getElem?_cons_zero] at x0
      have hRI : IntKind.i64.wrap ((k : Int) - (R.length : Int)) = (k : Int) - (R.length : Int) := IntWalk.i64_in _ ⟨by omega, by omega⟩
      clear ho HFIN HRD HSN HLE HEND hb HHAS
      go_wp2
      go_ret
      exact ⟨rfl, ⟨_, HF.out.1⟩, HF.out.2⟩
    obtain ⟨b, off, rfl, d0, d1, d2, d3, d4⟩ := HRD.out k wr hltk hb
    have hsn := HSN.out k hltk
    have hle := HLE.out k
    have hst := HST.out (l.getD k it0)
    obtain ⟨x, hxx⟩ : ∃ x, x = l.getD k it0 := ⟨_, rfl⟩
    rw [← hxx] at d0 d1 d2 d3 d4 hsn hst
    obtain ⟨y1, y2, y3, y4, y5⟩ := x
    simp only at d0 d1 d2 d3 d4 hst
    have hkI : (k : Int) < (n : Int) := by omega
    have ho1 := ho.alloc (.cells #[.int .i64 y1, .string y2, .int .i64 y3, .int .i64 y4, .bool y5] 69)
    have hb1 := hb.alloc hsb (.cells #[.int .i64 y1, .string y2, .int .i64 y3, .int .i64 y4, .bool y5] 69)
    clear hxx ho hb
    by_cases h3 : round ≤ y3
    · rw [decide_eq_true h3, Bool.true_or] at hst
      have HSN2 : Hid (F (k + 1) = F k ++ [(y1, y2, y3, y4, y5)]) := by show _ = _; rw [hsn, if_pos hst]
      clear hsn hst
      have hrq := rdG_one itW (wr.alloc (.cells #[.int .i64 y1, .string y2, .int .i64 y3, .int .i64 y4, .bool y5] 69)) (y1, y2, y3, y4, y5) 69
      have hoa := ho1.alloc (.cells #[.int .i64 y1, .string y2, .int .i64 y3, .int .i64 y4, .bool y5] 69)
      have hba := hb1.alloc hb1.size (.cells #[.int .i64 y1, .string y2, .int .i64 y3, .int .i64 y4, .bool y5] 69)
      have hsA : w.heap.size ≤ ((wr.alloc (.cells #[.int .i64 y1, .string y2, .int .i64 y3, .int .i64 y4, .bool y5] 69)).alloc (.cells #[.int .i64 y1, .string y2, .int .i64 y3, .int .i64 y4, .bool y5] 69)).heap.size := hba.size
      have hln : (F k).length + [(y1, y2, y3, y4, y5)].length ≤ 16777216 := by rw [List.length_singleton]; omega
      rw [World.size_alloc] at hrq
      clear ho1 hb1
      go_wp2_with (at_builtin; refine own_stepG hdt itW rfl _ _ rfl w.heap.size _ (.slice (some ⟨wr.heap.size + 1, 0, none⟩) 1 1) (F k) [(y1, y2, y3, y4, y5)] rfl rfl hoa hrq hln hsA ?_)
      intro v20 w20 ho20 hg20 hi20
      have HB20 := Lib.hid (hba.grown hg20 hsA (fun q hq => (hoa.lt q hq).1))
      rw [← HSN2.out] at ho20
      have HO20 := Lib.hid ho20
      clear ho20 hg20 hi20 hoa hba hrq hln
      go_wp2
      go_roundw
      case rel => exact ⟨k + 1, by omega, by go_num, HO20.out, HB20.out⟩
      case measure => simp [intOf]; omega
    · have hcall := HHAS.out _ y1 hb1
      rw [decide_eq_false h3, Bool.false_or] at hst
      cases hc : ms.contains y1 with
      | false =>
        rw [hc] at hst hcall
        rw [if_neg (by rw [hst]; decide), List.append_nil] at hsn
        have HO : Hid (OwnI (wr.alloc (.cells #[.int .i64 y1, .string y2, .int .i64 y3, .int .i64 y4, .bool y5] 69)) w.heap.size (.slice bo (F k).length bc) (F (k + 1))) := by show OwnI _ _ _ _; rw [hsn]; exact ho1
        have HB := Lib.hid hb1
        clear ho1 hb1 hsn hst hc
        go_wp2_with fail
        refine hcall.mono ?_
        rintro e w9 ⟨rfl, rfl⟩
        go_wp2
        go_roundw
        case rel => exact ⟨k + 1, by omega, by go_num, HO.out, HB.out⟩
        case measure => simp [intOf]; omega
      | true =>
        rw [hc] at hst hcall
        have HSN2 : Hid (F (k + 1) = F k ++ [(y1, y2, y3, y4, y5)]) := by show _ = _; rw [hsn, if_pos hst]
        clear hsn hst hc
        have hrq := rdG_one itW (wr.alloc (.cells #[.int .i64 y1, .string y2, .int .i64 y3, .int .i64 y4, .bool y5] 69)) (y1, y2, y3, y4, y5) 69
        have hoa := ho1.alloc (.cells #[.int .i64 y1, .string y2, .int .i64 y3, .int .i64 y4, .bool y5] 69)
        have hba := hb1.alloc hb1.size (.cells #[.int .i64 y1, .string y2, .int .i64 y3, .int .i64 y4, .bool y5] 69)
        have hsA : w.heap.size ≤ ((wr.alloc (.cells #[.int .i64 y1, .string y2, .int .i64 y3, .int .i64 y4, .bool y5] 69)).alloc (.cells #[.int .i64 y1, .string y2, .int .i64 y3, .int .i64 y4, .bool y5] 69)).heap.size := hba.size
        have hln : (F k).length + [(y1, y2, y3, y4, y5)].length ≤ 16777216 := by rw [List.length_singleton]; omega
        rw [World.size_alloc] at hrq
        clear ho1 hb1
        go_wp2_with fail
        refine hcall.mono ?_
        rintro e w9 ⟨rfl, rfl⟩
        clear hcall
        go_wp2_with (at_builtin; refine own_stepG hdt itW rfl _ _ rfl w.heap.size _ (.slice (some ⟨wr.heap.size + 1, 0, none⟩) 1 1) (F k) [(y1, y2, y3, y4, y5)] rfl rfl hoa hrq hln hsA ?_)
        intro v20 w20 ho20 hg20 hi20
        have HB20 := Lib.hid (hba.grown hg20 hsA (fun q hq => (hoa.lt q hq).1))
        rw [← HSN2.out] at ho20
        have HO20 := Lib.hid ho20
        clear ho20 hg20 hi20 hoa hba hrq hln
        go_wp2
        go_roundw
        case rel => exact ⟨k + 1, by omega, by go_num, HO20.out, HB20.out⟩
        case measure => simp [intOf]; omega
/-- what a sweep answers of a right shelf -/
def sweptN (r : Int) (l : List It) (round : Int) (ms : List Int) : (Int × List It) × Int := if round < r ∨ 100000 < round then ((r, l), -1) else ((round, sweptL round ms l), (l.length : Int) - ((sweptL round ms l).length : Int))
theorem sweptT_right {r : Int} {l : List It} {round : Int} {ms : List Int} (h : shelfB r l = true) : sweptT r l round ms = sweptN r l round ms := by unfold sweptT; rw [if_pos h]; rfl
theorem l13SweptN_any (B0 B : Nat) (r : Int) (v : Value) (l : List It) (round : Int) (vm : Value) (ms : List Int) (w : World) (h : ShB B0 B r v l w) (hm : Rd w vm (cellsInt64S ms)) (hl : l.length ≤ 1048576) (hml : ms.length ≤ 4194304) :
    Calls Tryz.prog 17 #[.pointer (some ⟨B, 0, none⟩), .int .i64 round, vm] w fun e w' => e = .returned (.int .i64 (sweptN r l round ms).2) ∧ (∃ v', ShB B0 B (sweptN r l round ms).1.1 v' (sweptN r l round ms).1.2 w') ∧ Below B0 w w' := by
  have h9 := l13Swept_any B0 B r v l round vm ms w h hm hl hml
  unfold sweptN
  by_cases hc : round < r ∨ 100000 < round
  · rw [if_pos hc, if_pos hc, if_pos hc] at h9
    rw [if_pos hc]
    exact h9
  · rw [if_neg hc, if_neg hc, if_neg hc] at h9
    rw [if_neg hc]
    exact h9
end Go.Proofs.YtfoncmeplofedaqGreatDoor
