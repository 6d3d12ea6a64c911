/- CONTRACTS: the program's blobs of a shelf, ShelfOk, Fetched. -/
import Derived.Test.YtfoncmeplofedaqGreatDoorNItXw
import Derived.Test.YtfoncmeplofedaqGreatDoorBunb
import Derived.Test.YtfoncmeplofedaqGreatDoorNumSet
namespace Go.Proofs.YtfoncmeplofedaqGreatDoor
open Go.RowKit
set_option linter.unusedVariables false
set_option maxHeartbeats 2000000 in
set_option maxRecDepth 100000 in
theorem implBlobs_any (r : Int) (va : Value) (l : List It) (w : World) (ha : RdG itf 5 w va l) (hl : l.length ≤ 1048576) :
    Calls Tryz.prog 53 #[.agg #[.int .i64 r, va]] w fun e w' => ∃ v, e = .returned v ∧ w'.ownsRow w.heap.size 67 2 v l.length (blC (itBs l)) ∧ Below w.heap.size w w' := by
  obtain ⟨W1, hW1⟩ : ∃ W1, W1 = w.alloc (.cells #[.int .i64 r, va] 26) := ⟨_, rfl⟩
  have hb1 : Below w.heap.size w W1 := by rw [hW1]; exact (Below.refl w.heap.size w).alloc (Nat.le_refl _) _
  have hs1 : W1.heap.size = w.heap.size + 1 := by rw [hW1]; exact alloc_sizeI _ _
  have hbox : W1.heap[w.heap.size]? = some (.cells #[.int .i64 r, va] 26 (0, 0)) := by rw [hW1]; exact heap_alloc_new w _
  have HBOX : Hid (∀ wr, Below (w.heap.size + 1) W1 wr → wr.cell? ⟨w.heap.size, 1, none⟩ = some va) := fun wr h => cell_of_row wr w.heap.size 1 _ _ (0, 0) ((h.block _ (by omega)).trans hbox)
  have HLOW : Hid (∀ wr, Below (w.heap.size + 1) W1 wr → Below w.heap.size w wr) := fun wr h => hb1.trans (h.mono (by omega))
  have hB0 := Below.refl (w.heap.size + 1) W1
  have ho0 : W1.ownsRow (w.heap.size + 1) 67 2 (.slice none 0 0) 0 (blC []) := World.ownsRow_nil _ _ _ _
  have hbox2 : W1.cell? ⟨w.heap.size, 1, none⟩ = some va := HBOX.out _ hB0
  have HOE : Hid (∀ (v : Value) (w9 : World), w9.ownsRow (w.heap.size + 1) 67 2 v (itBs l).length (blC (itBs l)) → w9.ownsRow w.heap.size 67 2 v l.length (blC (itBs l))) := fun v w9 h => by
    rw [show (itBs l).length = l.length from List.length_map _] at h
    exact own_lower h (by omega)
  rcases rdG_cases ha with ⟨h0, ao, cap, rfl⟩ | ⟨hp, b, off, cap, rfl, _, hlt, hc⟩
  · subst h0
    rw [hW1] at hB0 ho0 HLOW hbox2
    clear hbox HBOX hb1
    go_enter Tryz.func53, Tryz.ntmps53
    go_wp2
    refine wp_loop_rounds 1 ?_
    rw [rounds_succ]
    go_wp2
    go_ret
    exact ⟨_, rfl, HOE.out _ _ ho0, HLOW.out _ hB0⟩
  have HA := Lib.hid hc
  have HF : Hid (∀ k, k < l.length → itBs (l.take (k + 1)) = itBs (l.take k) ++ [itB (l.getD k it0)]) := fun k hk => by
    unfold itBs
    rw [List.take_succ_eq_append_getElem hk, List.map_append, getD_it hk]; rfl
  have HFL : Hid (∀ k, (itBs (l.take k)).length ≤ k) := fun k => by rw [show (itBs (l.take k)).length = (l.take k).length from List.length_map _]; exact List.length_take_le _ _
  have HFE : Hid (itBs l = itBs (l.take l.length)) := by show _ = _; rw [List.take_length]
  have HF0 : Hid (itBs (l.take 0) = []) := rfl
  have HCE : Hid (∀ k wr, k < l.length → Below (w.heap.size + 1) W1 wr → wr.cell? ⟨b, off + k * 5, none⟩ = some (.int .i64 (itB (l.getD k it0)).1) ∧ wr.cell? ⟨b, off + k * 5 + 1, none⟩ = some (.string (itB (l.getD k it0)).2) ∧ wr.cell? ⟨b, off + k * 5 + 2, none⟩ = some (.int .i64 (l.getD k it0).2.2.1) ∧ wr.cell? ⟨b, off + k * 5 + 3, none⟩ = some (.int .i64 (l.getD k it0).2.2.2.1) ∧ wr.cell? ⟨b, off + k * 5 + 4, none⟩ = some (.bool (l.getD k it0).2.2.2.2)) := fun k wr hk h => it_cells (cellsG_below hc hlt (HLOW.out wr h)) hk
  generalize itBs l = R at HFE HOE ⊢
  obtain ⟨F, hF⟩ : ∃ F : Nat → List Bl, F = fun k => itBs (l.take k) := ⟨_, rfl⟩
  have hF' : ∀ k, itBs (l.take k) = F k := fun k => by rw [hF]
  simp only [hF'] at HF HFL HFE HF0
  obtain ⟨n, hn⟩ : ∃ n, n = l.length := ⟨_, rfl⟩
  rw [← hn] at hp hl HF HFE HCE HOE hW1 hbox2 HBOX ⊢
  have HW := Lib.hid hW1
  have HBX := HBOX
  clear hc hn hF hF' HA ha hbox hb1 HBOX
  have HSZ : Hid (∀ wr, Below (w.heap.size + 1) W1 wr → w.heap.size + 1 ≤ wr.heap.size) := fun wr h => by have := h.size; omega
  rw [hW1] at hB0 ho0 hbox2
  clear hW1
  have HB0 := Lib.hid hB0
  clear hB0
  go_enter Tryz.func53, Tryz.ntmps53
  go_wp2
  go_loopw [3, 9] (fun v i wr => ∃ k : Nat, k ≤ n ∧ i = .int .i64 k ∧ wr.ownsRow (w.heap.size + 1) 67 2 v (F k).length (blC (F k)) ∧ Hid (Below (w.heap.size + 1) W1 wr) ∧ wr.cell? ⟨w.heap.size, 1, none⟩ = some (.slice (some ⟨b, off, none⟩) n cap)) (fun _ i _ => n - (intOf i).toNat)
  case atStart => exact ⟨0, Nat.zero_le _, rfl, by rw [HF0.out]; exact ho0, by rw [HW.out]; exact HB0.out, hbox2⟩
  case round =>
    obtain ⟨k, hk, rfl, ho, hb, hx⟩ := hrel
    clear ho0 hbox2
    by_cases hltk : k < n
    focus
      obtain ⟨d0, d1, d2, d3, d4⟩ := HCE.out k _ hltk hb.out
      have HFk : Hid (F (k + 1) = F k ++ [((l.getD k it0).1, (l.getD k it0).2.1)]) := HF.out k hltk
      have hfl := HFL.out k
      have hsz := HSZ.out _ hb.out
      obtain ⟨x1, h1⟩ : ∃ x, x = (l.getD k it0).1 := ⟨_, rfl⟩
      obtain ⟨x2, h2⟩ : ∃ x, x = (l.getD k it0).2.1 := ⟨_, rfl⟩
      rw [← h1] at d0 HFk
      rw [← h2] at d1 HFk
      clear h1 h2
      obtain ⟨x3, h3⟩ : ∃ x, x = (l.getD k it0).2.2.1 := ⟨_, rfl⟩
      obtain ⟨x4, h4⟩ : ∃ x, x = (l.getD k it0).2.2.2.1 := ⟨_, rfl⟩
      obtain ⟨x5, h5⟩ : ∃ x, x = (l.getD k it0).2.2.2.2 := ⟨_, rfl⟩
      rw [← h3] at d2
      rw [← h4] at d3
      rw [← h5] at d4
      clear h3 h4 h5
      have hbi := hb.out.alloc hsz (.cells #[.int .i64 x1, .string x2, .int .i64 x3, .int .i64 x4, .bool x5] 69)
      have hszi := Nat.le_trans hsz ((Below.refl _ _).alloc (Nat.le_refl _) (.cells #[.int .i64 x1, .string x2, .int .i64 x3, .int .i64 x4, .bool x5] 69)).size
      have hrdo := rdB_one (World.alloc wr (.cells #[.int .i64 x1, .string x2, .int .i64 x3, .int .i64 x4, .bool x5] 69)) (x1, x2) 67
      rw [World.size_alloc] at hrdo
      obtain ⟨acc, hacc⟩ : ∃ acc, acc = F k := ⟨_, rfl⟩
      rw [← hacc] at ho HFk hfl
      clear hacc
      go_wp2_with (at_builtin; refine wpList_append_blobs rfl _ _ rfl (w.heap.size + 1) _ acc [(x1, x2)] _ rfl rfl ((ho.alloc _).alloc _) hrdo (by rw [List.length_singleton]; omega) (by rw [World.size_alloc, World.size_alloc]; omega) ?_)
      intro v3 w3 ho3 hg3
      have hb3 : Hid (Below (w.heap.size + 1) W1 w3) := (hbi.alloc hszi _).grown hg3 (by simp; omega) (fun k hk => (ho.lt k hk).1)
      have ho4 : w3.ownsRow (w.heap.size + 1) 67 2 v3 (F (k + 1)).length (blC (F (k + 1))) := by
        rw [HFk.out, List.length_append]
        exact ho3
      have hx3 := HBX.out _ hb3.out
      clear ho3 hg3 ho hb d0 d1 d2 d3 d4 hx hbi hszi hrdo
      go_wp2
      go_roundw
      case rel => exact ⟨k + 1, by omega, by go_num, ho4, hb3, hx3⟩
      case measure => simp [intOf]; omega
    obtain rfl : k = n := by omega
    rw [← HFE.out] at ho
    have hO := HOE.out _ _ ho
    go_wp2
    go_ret
    exact ⟨_, rfl, hO, HLOW.out _ hb.out⟩
theorem shelfB_wrong (r : Int) (l : List It) : shelfB r l = (isRoundB r && (storeB (itBs l) && !(l.any wrongI))) := by
  unfold shelfB isRoundB
  congr 1
  congr 1
  induction l with
  | nil => rfl
  | cons p t ih =>
    rw [List.all_cons, List.any_cons, Bool.not_or, ← ih]
    congr 1
    cases hw : wrongI p with
    | false => rw [decide_eq_true (wrongI_no.1 hw)]; rfl
    | true => rw [decide_eq_false (fun h => by rw [wrongI_no.2 h] at hw; cases hw)]; rfl
set_option maxHeartbeats 2000000 in
set_option maxRecDepth 100000 in
theorem implShelfOk_any (r : Int) (va : Value) (l : List It) (w : World) (ha : RdG itf 5 w va l) (hl : l.length ≤ 1048576) (hs : ∀ p ∈ l, p.2.1.size ≤ 1048576) :
    Calls Tryz.prog 40 #[.agg #[.int .i64 r, va]] w fun e w' => e = .returned (.bool (shelfB r l)) ∧ Below w.heap.size w w' := by
  rw [shelfB_wrong]
  obtain ⟨W1, hW1⟩ : ∃ W1, W1 = w.alloc (.cells #[.int .i64 r, va] 26) := ⟨_, rfl⟩
  have hb1 : Below w.heap.size w W1 := by rw [hW1]; exact (Below.refl w.heap.size w).alloc (Nat.le_refl _) _
  have hs1 : W1.heap.size = w.heap.size + 1 := by rw [hW1]; exact alloc_sizeI _ _
  have hbox : W1.heap[w.heap.size]? = some (.cells #[.int .i64 r, va] 26 (0, 0)) := by rw [hW1]; exact heap_alloc_new w _
  have HBOX : Hid (∀ wr, Below (w.heap.size + 1) W1 wr → wr.cell? ⟨w.heap.size, 0, none⟩ = some (.int .i64 r) ∧ wr.cell? ⟨w.heap.size, 1, none⟩ = some va) := fun wr h => ⟨cell_of_row wr w.heap.size 0 _ _ (0, 0) ((h.block _ (by omega)).trans hbox), cell_of_row wr w.heap.size 1 _ _ (0, 0) ((h.block _ (by omega)).trans hbox)⟩
  have HLOW : Hid (∀ wr, Below (w.heap.size + 1) W1 wr → Below w.heap.size w wr) := fun wr h => hb1.trans (h.mono (by omega))
  have HBL : Hid (∀ W, W = W1 → Calls Tryz.prog 53 #[.agg #[.int .i64 r, va]] W fun e w' => ∃ v, e = .returned v ∧ Hid (w'.ownsRow (w.heap.size + 1) 67 2 v l.length (blC (itBs l))) ∧ Hid (Below (w.heap.size + 1) W1 w')) := by
    intro W hW
    rw [hW]
    have h := implBlobs_any r va l W1 (rdG_below ha hb1) hl
    rw [hs1] at h
    refine h.mono ?_
    rintro e w' ⟨v, rfl, h1, h2⟩
    exact ⟨v, rfl, h1, h2⟩
  have HST : Hid (∀ (W : World) (v : Value), W.ownsRow (w.heap.size + 1) 67 2 v l.length (blC (itBs l)) → Below (w.heap.size + 1) W1 W → Calls Tryz.prog 52 #[v] W fun e w' => e = .returned (.bool (storeB (itBs l))) ∧ Hid (Below (w.heap.size + 1) W1 w')) := fun W v h hB => by
    have hlen : (itBs l).length = l.length := List.length_map _
    refine (implStoreOk_any v (itBs l) W (rdB_owns (by rw [hlen]; exact h)) (by rw [hlen]; omega) (fun p hp => ?_)).mono ?_
    · obtain ⟨q, hq, rfl⟩ := List.mem_map.1 hp
      exact hs q hq
    · rintro e w' ⟨rfl, hb⟩
      exact ⟨rfl, hB.trans (hb.mono (by have := hB.size; omega))⟩
  have HCO : Hid (∀ (W : World), Below (w.heap.size + 1) W1 W → Calls Tryz.prog 54 #[va, .func (.func 55) #[] #[]] W fun e w' => e = .returned (.bool (l.any wrongI)) ∧ Hid (Below (w.heap.size + 1) W1 w')) := fun W hB => by
    refine (containsIW_any va l W (rdG_below ha (hb1.trans (hB.mono (by omega)))) hl).mono ?_
    rintro e w' ⟨rfl, hb⟩
    exact ⟨rfl, hB.trans (hb.mono (by have := hB.size; omega))⟩
  have hin := Lib.hid (fun W => isRound_any r W)
  generalize l.any wrongI = z3 at HCO ⊢
  cases z1 : isRoundB r with
  | false =>
    rw [Bool.false_and]
    rw [z1] at hin
    rw [hW1] at HLOW
    have hfin := HLOW.out _ (Below.refl _ _)
    clear HBOX HLOW HBL HST HCO hbox hb1 hs1
    obtain ⟨ao, cap, rfl⟩ := rdG_shape ha
    go_enter Tryz.func40, Tryz.ntmps40
    go_wp2_with fail
    refine (hin.out _).mono ?_
    rintro e w8 ⟨rfl, rfl⟩
    go_wp2
    go_ret
    exact ⟨rfl, hfin⟩
  | true =>
    rw [z1] at hin
    rw [Bool.true_and]
    have HW := Lib.hid hW1.symm
    generalize storeB (itBs l) = z2 at HST ⊢
    obtain ⟨ao, cap, hva⟩ := rdG_shape ha
    generalize l.length = nl at hva HST HBL
    generalize itBs l = bs at HST HBL
    subst hva
    clear hbox hb1 hs1 ha hs z1 hW1 hl
    cases z2 with
    | false =>
      rw [Bool.false_and]
      go_enter Tryz.func40, Tryz.ntmps40
      go_wp2_with fail
      refine (hin.out _).mono ?_
      rintro e w8 ⟨rfl, rfl⟩
      go_wp2_with fail
      refine (HBL.out _ HW.out).mono ?_
      rintro e w2 ⟨v2, rfl, ho2, hb2⟩
      have HC := Lib.hid (HST.out w2 v2 ho2.out hb2.out)
      clear HST HBL
      go_wp2_with fail
      refine HC.out.mono ?_
      rintro e w3 ⟨rfl, hb3⟩
      clear HC
      go_wp2
      go_ret
      exact ⟨rfl, HLOW.out _ hb3.out⟩
    | true =>
      rw [Bool.true_and]
      go_enter Tryz.func40, Tryz.ntmps40
      go_wp2_with fail
      refine (hin.out _).mono ?_
      rintro e w8 ⟨rfl, rfl⟩
      go_wp2_with fail
      refine (HBL.out _ HW.out).mono ?_
      rintro e w2 ⟨v2, rfl, ho2, hb2⟩
      have HC := Lib.hid (HST.out w2 v2 ho2.out hb2.out)
      clear HST HBL
      go_wp2_with fail
      refine HC.out.mono ?_
      rintro e w3 ⟨rfl, hb3⟩
      have hx3 := (HBOX.out _ hb3.out).2
      have HC2 := Lib.hid (HCO.out w3 hb3.out)
      clear HC HCO ho2 hb2 HBOX
      go_wp2_with fail
      refine HC2.out.mono ?_
      rintro e w4 ⟨rfl, hb4⟩
      clear HC2 hb3 hx3
      go_wp2
      go_ret
      exact ⟨by first | rfl | simp, HLOW.out _ hb4.out⟩
end Go.Proofs.YtfoncmeplofedaqGreatDoor
