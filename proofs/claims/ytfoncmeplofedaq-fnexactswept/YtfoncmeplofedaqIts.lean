/- THE LAWS' OWN READERS OVER ROWS OF ITEMS: szItem(S), toItem(S), eqItem(S) (of two that are alike). -/
import Derived.Test.YtfoncmeplofedaqItm
import Derived.Test.YtfoncmeplofedaqBlobS
import Derived.Test.YtfoncmeplofedaqBlobE
import Derived.Deep.RegionWith
import Derived.Deep.RegionHeld
import Derived.Deep.LoopGhost
import Derived.Deep.MidRow
namespace Go.Proofs.Ytfoncmeplofedaq
open Go.RowKit
set_option linter.unusedVariables false
abbrev itV (p : It) : Value := .agg #[.int .i64 p.1, .string p.2.1, .int .i64 p.2.2.1, .int .i64 p.2.2.2.1, .bool p.2.2.2.2]
theorem Try.infoIt : (Try.prog.info? 82).map (fun i => (i.zero, i.size, i.bytes)) = some (some (.agg #[.int .i64 0, .string ⟨#[]⟩, .int .i64 0, .int .i64 0, .bool false]), 5, 48) := by kernel_rfl
abbrev OwnI (w : World) (B : Nat) (v : Value) (l : List It) : Prop := OwnG itf 5 82 w B v l
theorem szItem_any (d : Int) (t : ByteArray) (s k : Int) (u : Bool) (z : Int) (w : World) (hz : 0 ≤ z ∧ z ≤ 1048576) (ht : t.size ≤ 9223372036854775807) :
    Calls Try.prog 53 #[.agg #[.int .i64 d, .string t, .int .i64 s, .int .i64 k, .bool u], .int .i64 z] w fun e w' => e = .returned (.int .i64 (if z - (t.size : Int) < 0 then -1 else z - (t.size : Int))) ∧ Below w.heap.size w w' := by
  have hb := (Below.refl w.heap.size w).alloc (Nat.le_refl _) (.cells #[.int .i64 d, .string t, .int .i64 s, .int .i64 k, .bool u] 78)
  have hs := fun W => szBlob_any d t z W hz ht
  by_cases h : z - (t.size : Int) < 0
  · rw [if_pos h] at hs ⊢
    go_enter Try.func53, Try.ntmps53
    go_wp2_with fail
    refine (hs _).mono ?_
    rintro e w1 ⟨rfl, hb1⟩
    have hB := hb.trans (hb1.mono hb.size)
    clear hb1 hb hs
    go_wp2
    go_ret
    exact ⟨rfl, hB⟩
  · rw [if_neg h] at hs ⊢
    go_enter Try.func53, Try.ntmps53
    go_wp2_with fail
    refine (hs _).mono ?_
    rintro e w1 ⟨rfl, hb1⟩
    have hB := hb.trans (hb1.mono hb.size)
    clear hb1 hb hs
    go_wp2
    go_ret
    exact ⟨rfl, hB⟩
theorem alloc_sizeI (X : World) (o : Obj) : (X.alloc o).heap.size = X.heap.size + 1 := by show (X.heap.push _).size = _; rw [Array.size_push]
set_option maxHeartbeats 2000000 in
set_option maxRecDepth 100000 in
theorem toItem_any (d : Int) (t : ByteArray) (s k : Int) (u : Bool) (w : World) :
    Calls Try.prog 56 #[.agg #[.int .i64 d, .string t, .int .i64 s, .int .i64 k, .bool u]] w fun e w' => e = .returned (.agg #[.int .i64 d, .string t, .int .i64 s, .int .i64 k, .bool u]) ∧ Below w.heap.size w w' := by
  have hcon : Hid (∀ W, W = ((w.alloc (.cells #[.int .i64 d, .string t, .int .i64 s, .int .i64 k, .bool u] 78)).alloc (.cells #[.int .i64 0, .string ⟨#[]⟩, .int .i64 0, .int .i64 0, .bool false] 82)).alloc (.cells #[.int .i64 0, .string ⟨#[]⟩, .int .i64 0, .int .i64 0, .bool false] 82) →
      Calls Try.prog 79 #[.agg #[.int .i64 d, .string t]] W fun e w' => e = .returned (.agg #[.int .i64 d, .string t]) ∧ Hid (∀ a0 a1 a2 a3 a4 k0 k1 k2 k3 k4 W2, W2 = ((((((((((w'.setCell ⟨w.heap.size + 1 + 1, 0, none⟩ a0).setCell ⟨w.heap.size + 1 + 1, 1, none⟩ a1).setCell ⟨w.heap.size + 1 + 1, 2, none⟩ a2).setCell ⟨w.heap.size + 1 + 1, 3, none⟩ a3).setCell ⟨w.heap.size + 1 + 1, 4, none⟩ a4).setCell ⟨w.heap.size + 1, 0, none⟩ k0).setCell ⟨w.heap.size + 1, 1, none⟩ k1).setCell ⟨w.heap.size + 1, 2, none⟩ k2).setCell ⟨w.heap.size + 1, 3, none⟩ k3).setCell ⟨w.heap.size + 1, 4, none⟩ k4) → Below w.heap.size w W2 ∧ W2.heap[w.heap.size + 1]? = some (.cells #[k0, k1, k2, k3, k4] 82 (0, 0))) ∧ w'.heap[w.heap.size + 1 + 1]? = some (.cells #[.int .i64 0, .string ⟨#[]⟩, .int .i64 0, .int .i64 0, .bool false] 82 (0, 0)) ∧ w'.heap[w.heap.size + 1]? = some (.cells #[.int .i64 0, .string ⟨#[]⟩, .int .i64 0, .int .i64 0, .bool false] 82 (0, 0)) ∧ w'.heap[w.heap.size]? = some (.cells #[.int .i64 d, .string t, .int .i64 s, .int .i64 k, .bool u] 78 (0, 0))) := by
    intro W hW
    have hbW : Below w.heap.size w W := by
      rw [hW]
      exact (((Below.refl _ w).alloc (Nat.le_refl _) _).alloc (by rw [alloc_sizeI]; omega) _).alloc (by rw [alloc_sizeI, alloc_sizeI]; omega) _
    have hsW : W.heap.size = w.heap.size + 1 + 1 + 1 := by rw [hW, alloc_sizeI, alloc_sizeI, alloc_sizeI]
    have hz : W.heap[w.heap.size + 1 + 1]? = some (.cells #[.int .i64 0, .string ⟨#[]⟩, .int .i64 0, .int .i64 0, .bool false] 82 (0, 0)) := by
      rw [hW]
      have e := heap_alloc_new ((w.alloc (.cells #[.int .i64 d, .string t, .int .i64 s, .int .i64 k, .bool u] 78)).alloc (.cells #[.int .i64 0, .string ⟨#[]⟩, .int .i64 0, .int .i64 0, .bool false] 82)) (.cells #[.int .i64 0, .string ⟨#[]⟩, .int .i64 0, .int .i64 0, .bool false] 82)
      rw [alloc_sizeI, alloc_sizeI] at e
      exact e
    have hY : W.heap[w.heap.size + 1]? = some (.cells #[.int .i64 0, .string ⟨#[]⟩, .int .i64 0, .int .i64 0, .bool false] 82 (0, 0)) := by
      rw [hW, Below.heap_alloc _ _ _ (by rw [alloc_sizeI, alloc_sizeI]; omega)]
      have e := heap_alloc_new (w.alloc (.cells #[.int .i64 d, .string t, .int .i64 s, .int .i64 k, .bool u] 78)) (.cells #[.int .i64 0, .string ⟨#[]⟩, .int .i64 0, .int .i64 0, .bool false] 82)
      rw [alloc_sizeI] at e
      exact e
    have hX : W.heap[w.heap.size]? = some (.cells #[.int .i64 d, .string t, .int .i64 s, .int .i64 k, .bool u] 78 (0, 0)) := by
      rw [hW]
      exact ((Below.heap_alloc _ _ _ (by rw [alloc_sizeI, alloc_sizeI]; omega)).trans (Below.heap_alloc _ _ _ (by rw [alloc_sizeI]; omega))).trans (heap_alloc_new w _)
    refine (toBlob_any d t W).mono ?_
    rintro e w' ⟨rfl, hb⟩
    have hz2 := (hb.block (w.heap.size + 1 + 1) (by omega)).trans hz
    have hY2 := (hb.block (w.heap.size + 1) (by omega)).trans hY
    have hX2 := (hb.block w.heap.size (by omega)).trans hX
    have hbb : Below w.heap.size w w' := hbW.trans (hb.mono (by omega))
    refine ⟨rfl, fun a0 a1 a2 a3 a4 k0 k1 k2 k3 k4 W2 hW2 => ?_, hz2, hY2, hX2⟩
    subst hW2
    have q2 : w.heap.size ≤ w.heap.size + 1 + 1 := by omega
    have q1 : w.heap.size ≤ w.heap.size + 1 := by omega
    exact ⟨((((((((((hbb.setCell (p := ⟨w.heap.size + 1 + 1, 0, none⟩) q2 a0).setCell (p := ⟨w.heap.size + 1 + 1, 1, none⟩) q2 a1).setCell (p := ⟨w.heap.size + 1 + 1, 2, none⟩) q2 a2).setCell (p := ⟨w.heap.size + 1 + 1, 3, none⟩) q2 a3).setCell (p := ⟨w.heap.size + 1 + 1, 4, none⟩) q2 a4).setCell (p := ⟨w.heap.size + 1, 0, none⟩) q1 k0).setCell (p := ⟨w.heap.size + 1, 1, none⟩) q1 k1).setCell (p := ⟨w.heap.size + 1, 2, none⟩) q1 k2).setCell (p := ⟨w.heap.size + 1, 3, none⟩) q1 k3).setCell (p := ⟨w.heap.size + 1, 4, none⟩) q1 k4), by simp [World.setCell, Array.getElem?_modify, hY2]⟩
  have hsi : Hid ((Try.prog.info? 82).map (·.size) = some 5) := by
    show _ = _
    kernel_rfl
  go_enter Try.func56, Try.ntmps56
  go_wp2_with fail
  refine (hcon.out _ rfl).mono ?_
  rintro e w1 ⟨rfl, hfin, hz, hy, hx⟩
  have c0 := cell_of_row w1 (w.heap.size + 1 + 1) 0 _ _ (0, 0) hz
  have c1 := cell_of_row w1 (w.heap.size + 1 + 1) 1 _ _ (0, 0) hz
  have c2 := cell_of_row w1 (w.heap.size + 1 + 1) 2 _ _ (0, 0) hz
  have c3 := cell_of_row w1 (w.heap.size + 1 + 1) 3 _ _ (0, 0) hz
  have c4 := cell_of_row w1 (w.heap.size + 1 + 1) 4 _ _ (0, 0) hz
  have f0 := Lib.frozen_of_heap hz 0
  have f1 := Lib.frozen_of_heap hz 1
  have f2 := Lib.frozen_of_heap hz 2
  have f3 := Lib.frozen_of_heap hz 3
  have f4 := Lib.frozen_of_heap hz 4
  have y0 := cell_of_row w1 (w.heap.size + 1) 0 _ _ (0, 0) hy
  have y1 := cell_of_row w1 (w.heap.size + 1) 1 _ _ (0, 0) hy
  have y2 := cell_of_row w1 (w.heap.size + 1) 2 _ _ (0, 0) hy
  have y3 := cell_of_row w1 (w.heap.size + 1) 3 _ _ (0, 0) hy
  have y4 := cell_of_row w1 (w.heap.size + 1) 4 _ _ (0, 0) hy
  have g0 := Lib.frozen_of_heap hy 0
  have g1 := Lib.frozen_of_heap hy 1
  have g2 := Lib.frozen_of_heap hy 2
  have g3 := Lib.frozen_of_heap hy 3
  have g4 := Lib.frozen_of_heap hy 4
  have x2 := cell_of_row w1 (w.heap.size) 2 _ _ (0, 0) hx
  have x3 := cell_of_row w1 (w.heap.size) 3 _ _ (0, 0) hx
  have x4 := cell_of_row w1 (w.heap.size) 4 _ _ (0, 0) hx
  simp at c0 c1 c2 c3 c4 y0 y1 y2 y3 y4 x2 x3 x4
  clear hz hy hx hcon
  obtain ⟨B2, hB2⟩ : ∃ B2, B2 = w.heap.size + 1 + 1 := ⟨_, rfl⟩
  obtain ⟨B1, hB1⟩ : ∃ B1, B1 = w.heap.size + 1 := ⟨_, rfl⟩
  obtain ⟨B0, hB0⟩ : ∃ B0, B0 = w.heap.size := ⟨_, rfl⟩
  have n1 : B0 ≠ B2 := by omega
  have n2 : B2 ≠ B0 := by omega
  have n3 : B1 ≠ B2 := by omega
  have n4 : B2 ≠ B1 := by omega
  have n5 : B1 ≠ B0 := by omega
  have n6 : B0 ≠ B1 := by omega
  rw [← hB2, ← hB1] at hfin
  rw [← hB2] at c0 c1 c2 c3 c4 f0 f1 f2 f3 f4
  rw [← hB1] at y0 y1 y2 y3 y4 g0 g1 g2 g3 g4
  rw [← hB0] at x2 x3 x4
  rw [← hB2, ← hB1, ← hB0]
  clear hB2 hB1 hB0
  go_wp2
  refine bodyPost_ret (results_cell_row (by rfl) _ _ B1 82 #[.int .i64 d, .string t, .int .i64 s, .int .i64 k, .bool u] (0, 0) _ rfl (hfin.out _ _ _ _ _ _ _ _ _ _ _ rfl).2 Try.underlying82 rfl hsi.out) rfl ?_
  exact ⟨rfl, (hfin.out _ _ _ _ _ _ _ _ _ _ _ rfl).1⟩
set_option maxHeartbeats 1000000 in
theorem szItemS_any (va : Value) (xs : List It) (l : Int) (w : World) (ha : RdG itf 5 w va xs) (hn : xs.length ≤ 9223372036854775807) (hs : ∀ p ∈ xs, p.2.1.size ≤ 9223372036854775807) (h0 : 0 ≤ l) (hl : l ≤ 1048576) :
    Calls Try.prog 25 #[va, .int .i64 l] w fun e w' => e = .returned (.int .i64 (szS (itTx xs) l)) ∧ Below w.heap.size w w' := by
  have hlt0 : (itTx xs).length = xs.length := List.length_map _
  by_cases hbig : l - (xs.length : Int) < 0
  · obtain ⟨ao, cap, rfl, _, _⟩ := ha
    have e : szS (itTx xs) l = -1 := by unfold szS; rw [hlt0, if_pos hbig]
    rw [e]
    clear hs e hlt0
    go_enter Try.func25, Try.ntmps25
    go_wp2
    go_ret
    exact ⟨rfl, Below.refl _ _⟩
  · have e : szS (itTx xs) l = szF (itTx xs) (l - (xs.length : Int)) := by unfold szS; rw [hlt0, if_neg hbig]
    rw [e]
    clear e hn
    rcases rdG_cases ha with ⟨h1, ao, cap, rfl⟩ | ⟨hp, b, off, cap, rfl, _, hlt, hc⟩
    · subst h1
      go_enter Try.func25, Try.ntmps25
      go_wp2
      refine wp_loop_rounds 1 ?_
      rw [rounds_succ]
      go_wp2
      go_ret
      exact ⟨ret_int (by simp [szF]), Below.refl _ _⟩
    · have HC := Lib.hid hc
      have HS := Lib.hid hs
      have HL := Lib.hid hlt0
      obtain ⟨n, hn⟩ : ∃ n, n = xs.length := ⟨_, rfl⟩
      rw [← hn] at hp hbig HL ⊢
      have HN := Lib.hid hn
      clear hc ha hn hs hlt0
      go_enter Try.func25, Try.ntmps25
      go_wp2
      go_loopw [1, 5] (fun q i wr => ∃ (k : Nat) (z : Int), k ≤ n ∧ q = .int .i64 z ∧ 0 ≤ z ∧ z ≤ 1048576 ∧ i = .int .i64 k ∧ Hid (szF (itTx xs) (l - (n : Int)) = szF ((itTx xs).drop k) z) ∧ Hid (Below w.heap.size w wr)) (fun _ i _ => n - (intOf i).toNat)
      case atStart => exact ⟨0, l - (n : Int), Nat.zero_le _, rfl, by omega, by omega, rfl, rfl, Below.refl _ _⟩
      case round =>
        rename World => w1
        obtain ⟨k, z, hk, rfl, hz0, hz1, rfl, hr, hb⟩ := hrel
        have hs1 := hb.out.size
        by_cases hltk : k < n
        · have hkx : k < xs.length := by have := HN.out; omega
          obtain ⟨d0, d1, d2, d3, d4⟩ := it_cells (cellsG_below HC.out hlt hb.out) hkx
          have hsz : (xs.getD k it0).2.1.size ≤ 9223372036854775807 := by
            have e : xs.getD k it0 = xs[k] := by simp [List.getD, hkx]
            rw [e]; exact HS.out _ (List.getElem_mem hkx)
          have HR : Hid (szF (itTx xs) (l - (n : Int)) = if z - ((xs.getD k it0).2.1.size : Int) < 0 then -1 else szF ((itTx xs).drop (k + 1)) (z - ((xs.getD k it0).2.1.size : Int))) := by
            show _ = _
            rw [hr.out, szF_drop (itTx xs) k z (by rw [HL.out]; exact hltk), itTx_get hkx]
          obtain ⟨x, hxx⟩ : ∃ x, x = (xs.getD k it0).2.1 := ⟨_, rfl⟩
          obtain ⟨y, hyy⟩ : ∃ y, y = (xs.getD k it0).1 := ⟨_, rfl⟩
          rw [← hxx] at d1 hsz HR
          rw [← hyy] at d0
          obtain ⟨u2, h2⟩ : ∃ u, u = (xs.getD k it0).2.2.1 := ⟨_, rfl⟩
          obtain ⟨u3, h3⟩ : ∃ u, u = (xs.getD k it0).2.2.2.1 := ⟨_, rfl⟩
          obtain ⟨u4, h4⟩ : ∃ u, u = (xs.getD k it0).2.2.2.2 := ⟨_, rfl⟩
          rw [← h2] at d2
          rw [← h3] at d3
          rw [← h4] at d4
          have hcall := Lib.hid (fun W => szItem_any y x u2 u3 u4 z W ⟨hz0, hz1⟩ hsz)
          clear hxx hyy hkx hr h2 h3 h4
          by_cases hneg : z - (x.size : Int) < 0
          · have HR3 : Hid (szF (itTx xs) (l - (n : Int)) = -1) := by have h := HR.out; rw [if_pos hneg] at h; exact h
            have hc2 := hcall.out
            rw [if_pos hneg] at hc2
            clear HR hcall
            go_wp2_with fail
            refine (hc2 _).mono ?_
            rintro e w2 ⟨rfl, hb2⟩
            have HB2 := Lib.hid (hb.out.trans (hb2.mono hs1))
            clear hc2 hb2
            go_wp2
            go_ret
            exact ⟨ret_int HR3.out.symm, HB2.out⟩
          · have HR3 : Hid (szF (itTx xs) (l - (n : Int)) = szF ((itTx xs).drop (k + 1)) (z - (x.size : Int))) := by
              have h := HR.out
              rw [if_neg hneg] at h
              exact h
            have hc2 := hcall.out
            rw [if_neg hneg] at hc2
            clear HR hcall
            go_wp2_with fail
            refine (hc2 _).mono ?_
            rintro e w2 ⟨rfl, hb2⟩
            have HB2 := Lib.hid (hb.out.trans (hb2.mono hs1))
            clear hc2 hb2
            go_wp2
            go_roundw
            case rel => exact ⟨k + 1, z - (x.size : Int), by omega, by go_num, by omega, by omega, by go_num, HR3, HB2⟩
            case measure => simp [intOf]; omega
        · have HE : Hid (szF (itTx xs) (l - (n : Int)) = z) := by
            show _ = _
            rw [hr.out, List.drop_of_length_le (by rw [HL.out]; omega)]
            rfl
          clear hr
          go_wp2
          go_ret
          exact ⟨ret_int HE.out.symm, hb.out⟩
abbrev itZ : It := (0, ⟨#[]⟩, 0, 0, false)
theorem made_items (n : Nat) : (madeCells (Value.agg #[.int .i64 0, .string ⟨#[]⟩, .int .i64 0, .int .i64 0, .bool false]).cells (n * 5)).toList = rowC itf (List.replicate n itZ) := made_G itW (z := Value.agg #[.int .i64 0, .string ⟨#[]⟩, .int .i64 0, .int .i64 0, .bool false]) rfl n
set_option maxHeartbeats 1000000 in
set_option maxRecDepth 100000 in
theorem toItemS_any (va : Value) (xs : List It) (w : World) (ha : RdG itf 5 w va xs) (hl : xs.length ≤ 1048576) :
    Calls Try.prog 29 #[va] w fun e w' => ∃ v, e = .returned v ∧ OwnI w' w.heap.size v xs ∧ Below w.heap.size w w' := by
  obtain ⟨i0, hi, hz0, hz1, hz2⟩ := info_parts Try.infoIt
  rcases rdG_cases ha with ⟨h0, ao, cap, rfl⟩ | ⟨hp, b, off, cap, rfl, _, hlt, hc⟩
  · subst h0
    clear ha
    go_enter Try.func29, Try.ntmps29
    go_wp2_with (at_make; refine wpList_make_full _ rfl _ _ 27 rfl w.heap.size 82 i0 (.agg #[.int .i64 0, .string ⟨#[]⟩, .int .i64 0, .int .i64 0, .bool false]) 5 Try.underlying27 hi hz0 hz1 _ _ _ _ 0 rfl rfl (by omega) (by omega) (by omega) (by decide) ?c0 ?_)
    case c0 => exact Nat.le_refl _
    intro w0 hmade hg0
    have hb0 : Below w.heap.size w w0 := (Below.refl _ _).grown hg0 (Nat.le_refl _) (fun k hk => by cases hk)
    have hmade2 : OwnI w0 w.heap.size (.slice (some ⟨w.heap.size, 0, none⟩) 0 0) [] := by
      have h := hmade
      simp [madeCells] at h
      exact h
    clear hg0 hmade
    go_wp2
    refine wp_loop_rounds 1 ?_
    rw [rounds_succ]
    go_wp2
    go_ret
    exact ⟨_, rfl, hmade2, hb0⟩
  · obtain ⟨n, hn⟩ : ∃ n, n = xs.length := ⟨_, rfl⟩
    have HA := Lib.hid hc
    have HO9 : Hid (∀ (v : Value) (w9 : World), w9.ownsRow w.heap.size 82 5 v n (rowC itf xs) → OwnI w9 w.heap.size v xs) := fun v w9 h => by rw [OwnI, OwnG, ← hn]; exact h
    rw [← hn] at hp hl ⊢
    have HN : Hid (n = xs.length) := hn
    clear hc ha hn
    go_enter Try.func29, Try.ntmps29
    go_wp2_with (at_make; refine wpList_make_full _ rfl _ _ 27 rfl w.heap.size 82 i0 (.agg #[.int .i64 0, .string ⟨#[]⟩, .int .i64 0, .int .i64 0, .bool false]) 5 Try.underlying27 hi hz0 hz1 _ _ _ _ n rfl rfl rfl rfl (by rw [hz2]; omega) (by unfold maxLen; omega) ?c1 ?_)
    case c1 => exact Nat.le_refl _
    intro w0 hmade hg0
    have hb0 : Below w.heap.size w w0 := (Below.refl _ _).grown hg0 (Nat.le_refl _) (fun k hk => by cases hk)
    have hm2 : w0.ownsRow w.heap.size 82 5 (.slice (some ⟨w.heap.size, 0, none⟩) n n) n (rowC itf (xs.take 0 ++ List.replicate (n - 0) itZ)) := by
      have h := hmade
      first | rw [made_items n] at h | (have e9 := made_items n; simp only [Value.cells] at e9; rw [e9] at h)
      simpa using h
    clear hg0 hmade
    go_wp2
    go_loopw [4] (fun i wr => ∃ k : Nat, k ≤ n ∧ i = .int .i64 k ∧ wr.ownsRow w.heap.size 82 5 (.slice (some ⟨w.heap.size, 0, none⟩) n n) n (rowC itf (xs.take k ++ List.replicate (n - k) itZ)) ∧ Hid (Below w.heap.size w wr)) (fun i _ => n - (intOf i).toNat)
    case atStart => exact ⟨0, Nat.zero_le _, rfl, hm2, hb0⟩
    case round =>
      rename World => w1
      obtain ⟨k, hk, rfl, ho, hb⟩ := hrel
      clear hb0 hm2
      have hs1 := hb.out.size
      by_cases hltk : k < n
      · have hkx : k < xs.length := by have := HN.out; omega
        obtain ⟨d0, d1, d2, d3, d4⟩ := it_cells (cellsG_below HA.out hlt hb.out) hkx
        have hll : (xs.take k ++ List.replicate (n - k) itZ).length = n := by rw [List.length_append, List.length_take, List.length_replicate]; omega
        have hlc : (rowC itf (xs.take k ++ List.replicate (n - k) itZ)).length = n * 5 := by rw [rowC_len itW, hll]
        have hset := it_set (xs.take k ++ List.replicate (n - k) itZ) k (xs.getD k it0) (by omega)
        rw [copied_it hkx hltk itZ] at hset
        obtain ⟨x, hxx⟩ : ∃ x, x = xs.getD k it0 := ⟨_, rfl⟩
        rw [← hxx] at d0 d1 d2 d3 d4 hset
        obtain ⟨x1, x2, x3, x4, x5⟩ := x
        simp only at d0 d1 d2 d3 d4 hset
        clear hxx
        have hcall := Lib.hid (fun W => toItem_any x1 x2 x3 x4 x5 W)
        go_wp2_with fail
        refine (hcall.out w1).mono ?_
        rintro e w2 ⟨rfl, hb2⟩
        have hs2 := hb2.size
        have ho2 := owns_below ho hb2
        have HB2 := Lib.hid (hb.out.trans (hb2.mono hs1))
        have f0 := ho2.cellAt (k * 5) (by omega)
        have f1 := ho2.cellAt (k * 5 + 1) (by omega)
        have f2 := ho2.cellAt (k * 5 + 2) (by omega)
        have f3 := ho2.cellAt (k * 5 + 3) (by omega)
        have f4 := ho2.cellAt (k * 5 + 4) (by omega)
        have z0 := ho2.frozenAt (k * 5)
        have z1 := ho2.frozenAt (k * 5 + 1)
        have z2 := ho2.frozenAt (k * 5 + 2)
        have z3 := ho2.frozenAt (k * 5 + 3)
        have z4 := ho2.frozenAt (k * 5 + 4)
        obtain ⟨u0, hu0⟩ : ∃ u0, (rowC itf (xs.take k ++ List.replicate (n - k) itZ))[k * 5]? = some u0 := ⟨_, List.getElem?_eq_getElem (by omega)⟩
        rw [hu0] at f0
        obtain ⟨u1, hu1⟩ : ∃ u0, (rowC itf (xs.take k ++ List.replicate (n - k) itZ))[k * 5 + 1]? = some u0 := ⟨_, List.getElem?_eq_getElem (by omega)⟩
        rw [hu1] at f1
        obtain ⟨u2, hu2⟩ : ∃ u0, (rowC itf (xs.take k ++ List.replicate (n - k) itZ))[k * 5 + 2]? = some u0 := ⟨_, List.getElem?_eq_getElem (by omega)⟩
        rw [hu2] at f2
        obtain ⟨u3, hu3⟩ : ∃ u0, (rowC itf (xs.take k ++ List.replicate (n - k) itZ))[k * 5 + 3]? = some u0 := ⟨_, List.getElem?_eq_getElem (by omega)⟩
        rw [hu3] at f3
        obtain ⟨u4, hu4⟩ : ∃ u0, (rowC itf (xs.take k ++ List.replicate (n - k) itZ))[k * 5 + 4]? = some u0 := ⟨_, List.getElem?_eq_getElem (by omega)⟩
        rw [hu4] at f4
        have hst1 := ho2.stored (k * 5) (.int .i64 x1)
        have hst2 := hst1.1.stored (k * 5 + 1) (.string x2)
        have hst3 := hst2.1.stored (k * 5 + 2) (.int .i64 x3)
        have hst4 := hst3.1.stored (k * 5 + 3) (.int .i64 x4)
        have hst5 := hst4.1.stored (k * 5 + 4) (.bool x5)
        rw [hset] at hst5
        have HO := Lib.hid hst5.1
        have HG := Lib.hid (grown_trans hst1.2 (grown_trans hst2.2 (grown_trans hst3.2 (grown_trans hst4.2 hst5.2))))
        clear hcall hb2 ho ho2 hst1 hst2 hst3 hst4 hst5 hset hu0 hu1 hu2 hu3 hu4 hll hlc hb d0 d1 d2 d3 d4
        go_wp2
        go_roundw
        case rel => exact ⟨k + 1, by omega, by go_num, HO.out, HB2.out.grown HG.out HB2.out.size (fun g h => by cases h; exact Nat.le_refl _)⟩
        case measure => simp [intOf]; omega
      · have hk9 : k = n := by omega
        rw [hk9, List.take_of_length_le (by have := HN.out; omega), Nat.sub_self, List.replicate_zero, List.append_nil] at ho
        have HO := Lib.hid (HO9.out _ _ ho)
        clear ho hk9
        go_wp2
        go_ret
        exact ⟨_, rfl, HO.out, hb.out⟩
theorem eqItem_same (d : Int) (t : ByteArray) (s k : Int) (u : Bool) (w : World) :
    Calls Try.prog 66 #[.agg #[.int .i64 d, .string t, .int .i64 s, .int .i64 k, .bool u], .agg #[.int .i64 d, .string t, .int .i64 s, .int .i64 k, .bool u]] w fun e w' => e = .returned (.bool true) ∧ Below w.heap.size w w' := by
  have hb := ((Below.refl w.heap.size w).alloc (Nat.le_refl _) (.cells #[.int .i64 d, .string t, .int .i64 s, .int .i64 k, .bool u] 82)).alloc (by simp) (.cells #[.int .i64 d, .string t, .int .i64 s, .int .i64 k, .bool u] 82)
  have hX : ((w.alloc (.cells #[.int .i64 d, .string t, .int .i64 s, .int .i64 k, .bool u] 82)).alloc (.cells #[.int .i64 d, .string t, .int .i64 s, .int .i64 k, .bool u] 82)).heap[w.heap.size]? = some (.cells #[.int .i64 d, .string t, .int .i64 s, .int .i64 k, .bool u] 82 (0, 0)) := (Below.heap_alloc _ _ _ (by simp)).trans (heap_alloc_new w _)
  have hY : ((w.alloc (.cells #[.int .i64 d, .string t, .int .i64 s, .int .i64 k, .bool u] 82)).alloc (.cells #[.int .i64 d, .string t, .int .i64 s, .int .i64 k, .bool u] 82)).heap[w.heap.size + 1]? = some (.cells #[.int .i64 d, .string t, .int .i64 s, .int .i64 k, .bool u] 82 (0, 0)) := by
    have e := heap_alloc_new (w.alloc (.cells #[.int .i64 d, .string t, .int .i64 s, .int .i64 k, .bool u] 82)) (.cells #[.int .i64 d, .string t, .int .i64 s, .int .i64 k, .bool u] 82)
    rw [show (w.alloc (.cells #[.int .i64 d, .string t, .int .i64 s, .int .i64 k, .bool u] 82)).heap.size = w.heap.size + 1 by simp] at e
    exact e
  have hs2 : ((w.alloc (.cells #[.int .i64 d, .string t, .int .i64 s, .int .i64 k, .bool u] 82)).alloc (.cells #[.int .i64 d, .string t, .int .i64 s, .int .i64 k, .bool u] 82)).heap.size = w.heap.size + 1 + 1 := by simp
  have hcon : Hid (∀ W, W = (w.alloc (.cells #[.int .i64 d, .string t, .int .i64 s, .int .i64 k, .bool u] 82)).alloc (.cells #[.int .i64 d, .string t, .int .i64 s, .int .i64 k, .bool u] 82) → Calls Try.prog 89 #[.agg #[.int .i64 d, .string t], .agg #[.int .i64 d, .string t]] W fun e w' => e = .returned (.bool true) ∧ Hid (Below w.heap.size w w') ∧ w'.heap[w.heap.size]? = some (.cells #[.int .i64 d, .string t, .int .i64 s, .int .i64 k, .bool u] 82 (0, 0)) ∧ w'.heap[w.heap.size + 1]? = some (.cells #[.int .i64 d, .string t, .int .i64 s, .int .i64 k, .bool u] 82 (0, 0))) := by
    intro W hW
    rw [← hW] at hb hX hY hs2
    refine (eqBlob_same d t W).mono ?_
    rintro e w' ⟨rfl, hb1⟩
    exact ⟨rfl, hb.trans (hb1.mono hb.size), (hb1.block _ (by omega)).trans hX, (hb1.block _ (by omega)).trans hY⟩
  clear hb hX hY hs2
  go_enter Try.func66, Try.ntmps66
  go_wp2_with fail
  refine (hcon.out _ rfl).mono ?_
  rintro e w1 ⟨rfl, hb1, hx, hy⟩
  have x2 := cell_of_row w1 (w.heap.size) 2 _ _ (0, 0) hx
  have x3 := cell_of_row w1 (w.heap.size) 3 _ _ (0, 0) hx
  have x4 := cell_of_row w1 (w.heap.size) 4 _ _ (0, 0) hx
  have y2 := cell_of_row w1 (w.heap.size + 1) 2 _ _ (0, 0) hy
  have y3 := cell_of_row w1 (w.heap.size + 1) 3 _ _ (0, 0) hy
  have y4 := cell_of_row w1 (w.heap.size + 1) 4 _ _ (0, 0) hy
  simp at x2 x3 x4 y2 y3 y4
  clear hx hy hcon
  go_wp2
  go_ret
  exact ⟨by first | rfl | simp, hb1.out⟩
set_option maxHeartbeats 1000000 in
set_option maxRecDepth 100000 in
theorem eqItemS_same (va vb : Value) (xs : List It) (w : World) (ha : RdG itf 5 w va xs) (hb : RdG itf 5 w vb xs) (hl : xs.length ≤ 1048576) :
    Calls Try.prog 32 #[va, vb] w fun e w' => e = .returned (.bool true) ∧ Below w.heap.size w w' := by
  rcases rdG_cases ha with ⟨h0, ao, cap, rfl⟩ | ⟨hp, b, off, cap, rfl, _, hlt, hc⟩
  · subst h0
    obtain ⟨bo, bcap, rfl⟩ := rdG_shape hb
    go_enter Try.func32, Try.ntmps32
    go_wp2
    refine wp_loop_rounds 1 ?_
    rw [rounds_succ]
    go_wp2
    go_ret
    exact ⟨rfl, Below.refl _ _⟩
  · rcases rdG_cases hb with ⟨h0, ao, cap', rfl⟩ | ⟨_, b', off', cap', rfl, _, hlt', hc'⟩
    · rw [h0] at hp; simp at hp
    · have HA : Hid (∀ j, j < xs.length → ∀ w', Below w.heap.size w w' → w'.cell? ⟨b, off + j * 5, none⟩ = some (.int .i64 (xs.getD j it0).1) ∧ w'.cell? ⟨b, off + j * 5 + 1, none⟩ = some (.string (xs.getD j it0).2.1) ∧ w'.cell? ⟨b, off + j * 5 + 2, none⟩ = some (.int .i64 (xs.getD j it0).2.2.1) ∧ w'.cell? ⟨b, off + j * 5 + 3, none⟩ = some (.int .i64 (xs.getD j it0).2.2.2.1) ∧ w'.cell? ⟨b, off + j * 5 + 4, none⟩ = some (.bool (xs.getD j it0).2.2.2.2)) := fun j hj w' h => it_cells (cellsG_below hc hlt h) hj
      have HB : Hid (∀ j, j < xs.length → ∀ w', Below w.heap.size w w' → w'.cell? ⟨b', off' + j * 5, none⟩ = some (.int .i64 (xs.getD j it0).1) ∧ w'.cell? ⟨b', off' + j * 5 + 1, none⟩ = some (.string (xs.getD j it0).2.1) ∧ w'.cell? ⟨b', off' + j * 5 + 2, none⟩ = some (.int .i64 (xs.getD j it0).2.2.1) ∧ w'.cell? ⟨b', off' + j * 5 + 3, none⟩ = some (.int .i64 (xs.getD j it0).2.2.2.1) ∧ w'.cell? ⟨b', off' + j * 5 + 4, none⟩ = some (.bool (xs.getD j it0).2.2.2.2)) := fun j hj w' h => it_cells (cellsG_below hc' hlt' h) hj
      obtain ⟨n, hn⟩ : ∃ n, n = xs.length := ⟨_, rfl⟩
      rw [← hn] at hl hp HA HB ⊢
      clear hc hc' hp hn ha hb
      go_enter Try.func32, Try.ntmps32
      go_wp2
      go_loopw [5] (fun i wr => ∃ k : Nat, k ≤ n ∧ i = .int .i64 k ∧ Hid (Below w.heap.size w wr)) (fun i _ => n - (intOf i).toNat)
      case atStart => exact ⟨0, Nat.zero_le _, rfl, Below.refl _ _⟩
      case round =>
        rename World => w1
        obtain ⟨k, hk, rfl, hB⟩ := hrel
        have hs1 := hB.out.size
        by_cases hltk : k < n
        · obtain ⟨d0, d1, d2, d3, d4⟩ := HA.out k hltk _ hB.out
          obtain ⟨e0, e1, e2, e3, e4⟩ := HB.out k hltk _ hB.out
          obtain ⟨x, hxx⟩ : ∃ x, x = xs.getD k it0 := ⟨_, rfl⟩
          rw [← hxx] at d0 d1 d2 d3 d4 e0 e1 e2 e3 e4
          obtain ⟨x1, x2, x3, x4, x5⟩ := x
          clear hxx
          have hcall := Lib.hid (fun W => eqItem_same x1 x2 x3 x4 x5 W)
          have hltI : (k : Int) < (n : Int) := by omega
          go_wp2
          go_region_with (first | (go_at_call 66; refine (hcall.out _).mono ?_; rintro e w2 ⟨rfl, hb2⟩))
          all_goals
            have HB2 : Hid (Below w.heap.size w w2) := by first | exact hB.out.trans (hb2.mono hs1) | exact hB.out.drew.trans (hb2.mono hs1)
            clear hcall hb2
            go_wp2
            go_roundw
            case rel => exact ⟨k + 1, by omega, by go_num, HB2⟩
            case measure => simp [intOf]; omega
        · go_wp2
          go_ret
          exact ⟨rfl, hB.out⟩
theorem szF_neg : ∀ (l : List ByteArray) (z : Int), 0 ≤ z → szF l z = -1 ∨ 0 ≤ szF l z
  | [], z, h => Or.inr h
  | a :: t, z, h => by
    rw [szF]
    by_cases h1 : z - (a.size : Int) < 0
    · rw [if_pos h1]; exact Or.inl rfl
    · rw [if_neg h1]; exact szF_neg t _ (by omega)
theorem szS_neg (l : List ByteArray) (z : Int) : szS l z = -1 ∨ 0 ≤ szS l z := by
  unfold szS
  by_cases h : z - (l.length : Int) < 0
  · rw [if_pos h]; exact Or.inl rfl
  · rw [if_neg h]; exact szF_neg l _ (by omega)
theorem szShelf_any (r : Int) (va : Value) (xs : List It) (l : Int) (w : World) (ha : RdG itf 5 w va xs) (hn : xs.length ≤ 9223372036854775807) (hs : ∀ p ∈ xs, p.2.1.size ≤ 9223372036854775807) (h0 : 0 ≤ l) (hl : l ≤ 1048576) :
    Calls Try.prog 7 #[.agg #[.int .i64 r, va], .int .i64 l] w fun e w' => e = .returned (.int .i64 (szS (itTx xs) l)) ∧ Below w.heap.size w w' := by
  have hb := (Below.refl w.heap.size w).alloc (Nat.le_refl _) (.cells #[.int .i64 r, va] 24)
  have hc := szItemS_any va xs l (w.alloc (.cells #[.int .i64 r, va] 24)) (rdG_below ha hb) hn hs h0 hl
  have hge : szS (itTx xs) l = -1 ∨ 0 ≤ szS (itTx xs) l := szS_neg _ _
  obtain ⟨ao, cap, rfl⟩ := rdG_shape ha
  obtain ⟨z, hz⟩ : ∃ z, z = szS (itTx xs) l := ⟨_, rfl⟩
  rw [← hz] at hc hge ⊢
  have HC := Lib.hid hc
  clear hz ha hn hs hc
  rcases hge with rfl | hge
  · go_enter Try.func7, Try.ntmps7
    go_wp2_with fail
    refine HC.out.mono ?_
    rintro e w1 ⟨rfl, hb1⟩
    have hB := hb.trans (hb1.mono hb.size)
    clear HC hb hb1
    go_wp2
    go_ret
    exact ⟨rfl, hB⟩
  · go_enter Try.func7, Try.ntmps7
    go_wp2_with fail
    refine HC.out.mono ?_
    rintro e w1 ⟨rfl, hb1⟩
    have hB := hb.trans (hb1.mono hb.size)
    clear HC hb hb1
    go_wp2
    go_ret
    exact ⟨rfl, hB⟩
theorem own_setCell {w : World} {B : Nat} {e : TypeId} {k : Nat} {v : Value} {n : Nat} {xs : List Value} (h : w.ownsRow B e k v n xs) {p : Addr} (hp : p.block < B) (u : Value) : (w.setCell p u).ownsRow B e k v n xs := by
  refine ⟨h.1, ?_⟩
  rcases h.2 with ⟨hv, h0⟩ | ⟨g, cap, cur, hv, hbg, hh, rest⟩
  · exact Or.inl ⟨hv, h0⟩
  · exact Or.inr ⟨g, cap, cur, hv, hbg, by rw [Below.heap_setCell _ _ _ _ (by omega)]; exact hh, rest⟩
theorem own_lower {w : World} {B B' : Nat} {e : TypeId} {k : Nat} {v : Value} {n : Nat} {xs : List Value} (h : w.ownsRow B e k v n xs) (hB : B' ≤ B) : w.ownsRow B' e k v n xs := by
  refine ⟨h.1, ?_⟩
  rcases h.2 with ⟨hv, h0⟩ | ⟨g, cap, cur, hv, hbg, rest⟩
  · exact Or.inl ⟨hv, h0⟩
  · exact Or.inr ⟨g, cap, cur, hv, Nat.le_trans hB hbg, rest⟩
set_option maxHeartbeats 2000000 in
set_option maxRecDepth 100000 in
theorem toShelf_any (r : Int) (va : Value) (xs : List It) (w : World) (ha : RdG itf 5 w va xs) (hl : xs.length ≤ 1048576) :
    Calls Try.prog 9 #[.agg #[.int .i64 r, va]] w fun e w' => ∃ v, e = .returned (.agg #[.int .i64 r, v]) ∧ OwnI w' w.heap.size v xs ∧ Below w.heap.size w w' := by
  obtain ⟨ao, cap, hva⟩ := rdG_shape ha
  have hcon : Hid (∀ W, W = ((w.alloc (.cells #[.int .i64 r, va] 24)).alloc (.cells #[.int .i64 0, .slice none 0 0] 29)).alloc (.cells #[.int .i64 r, .slice none 0 0] 29) → Calls Try.prog 29 #[va] W fun e w' => ∃ v, e = .returned v ∧ (∃ ao cap, v = .slice ao xs.length cap) ∧ Hid (∀ a0 k0 k1 W2, W2 = ((w'.setCell ⟨w.heap.size + 1 + 1, 1, none⟩ a0).setCell ⟨w.heap.size + 1, 0, none⟩ k0).setCell ⟨w.heap.size + 1, 1, none⟩ k1 → OwnI W2 w.heap.size v xs ∧ Below w.heap.size w W2 ∧ W2.heap[w.heap.size + 1]? = some (.cells #[k0, k1] 29 (0, 0))) ∧ w'.heap[w.heap.size + 1 + 1]? = some (.cells #[.int .i64 r, .slice none 0 0] 29 (0, 0)) ∧ w'.heap[w.heap.size + 1]? = some (.cells #[.int .i64 0, .slice none 0 0] 29 (0, 0))) := by
    intro W hW
    have hbW : Below w.heap.size w W := by
      rw [hW]
      exact (((Below.refl _ w).alloc (Nat.le_refl _) _).alloc (by rw [alloc_sizeI]; omega) _).alloc (by rw [alloc_sizeI, alloc_sizeI]; omega) _
    have hsW : W.heap.size = w.heap.size + 1 + 1 + 1 := by rw [hW, alloc_sizeI, alloc_sizeI, alloc_sizeI]
    have hz : W.heap[w.heap.size + 1 + 1]? = some (.cells #[.int .i64 r, .slice none 0 0] 29 (0, 0)) := by
      rw [hW]
      have e := heap_alloc_new ((w.alloc (.cells #[.int .i64 r, va] 24)).alloc (.cells #[.int .i64 0, .slice none 0 0] 29)) (.cells #[.int .i64 r, .slice none 0 0] 29)
      rw [alloc_sizeI, alloc_sizeI] at e
      exact e
    have hY : W.heap[w.heap.size + 1]? = some (.cells #[.int .i64 0, .slice none 0 0] 29 (0, 0)) := by
      rw [hW, Below.heap_alloc _ _ _ (by rw [alloc_sizeI, alloc_sizeI]; omega)]
      have e := heap_alloc_new (w.alloc (.cells #[.int .i64 r, va] 24)) (.cells #[.int .i64 0, .slice none 0 0] 29)
      rw [alloc_sizeI] at e
      exact e
    refine (toItemS_any va xs W (rdG_below ha hbW) hl).mono ?_
    rintro e w' ⟨v, rfl, ho, hb⟩
    have hz2 := (hb.block (w.heap.size + 1 + 1) (by omega)).trans hz
    have hY2 := (hb.block (w.heap.size + 1) (by omega)).trans hY
    have hbb : Below w.heap.size w w' := hbW.trans (hb.mono (by omega))
    refine ⟨v, rfl, ownG_shape ho, fun a0 k0 k1 W2 hW2 => ?_, hz2, hY2⟩
    subst hW2
    have q2 : w.heap.size ≤ w.heap.size + 1 + 1 := by omega
    have q1 : w.heap.size ≤ w.heap.size + 1 := by omega
    exact ⟨own_lower (own_setCell (own_setCell (own_setCell ho (p := ⟨w.heap.size + 1 + 1, 1, none⟩) (by show w.heap.size + 1 + 1 < _; omega) a0) (p := ⟨w.heap.size + 1, 0, none⟩) (by show w.heap.size + 1 < _; omega) k0) (p := ⟨w.heap.size + 1, 1, none⟩) (by show w.heap.size + 1 < _; omega) k1) (by omega), ((hbb.setCell (p := ⟨w.heap.size + 1 + 1, 1, none⟩) q2 a0).setCell (p := ⟨w.heap.size + 1, 0, none⟩) q1 k0).setCell (p := ⟨w.heap.size + 1, 1, none⟩) q1 k1, by simp [World.setCell, Array.getElem?_modify, hY2]⟩
  have hsi : Hid ((Try.prog.info? 29).map (·.size) = some 2) := by
    show _ = _
    kernel_rfl
  subst hva
  clear ha
  go_enter Try.func9, Try.ntmps9
  go_wp2_with fail
  refine (hcon.out _ rfl).mono ?_
  rintro e w1 ⟨v, rfl, ⟨bo, bcap, rfl⟩, hfin, hz, hy⟩
  have c0 := cell_of_row w1 (w.heap.size + 1 + 1) 0 _ _ (0, 0) hz
  have c1 := cell_of_row w1 (w.heap.size + 1 + 1) 1 _ _ (0, 0) hz
  have y0 := cell_of_row w1 (w.heap.size + 1) 0 _ _ (0, 0) hy
  have y1 := cell_of_row w1 (w.heap.size + 1) 1 _ _ (0, 0) hy
  have f1 := Lib.frozen_of_heap hz 1
  have g0 := Lib.frozen_of_heap hy 0
  have g1 := Lib.frozen_of_heap hy 1
  simp at c0 c1 y0 y1
  clear hz hy hcon
  obtain ⟨B2, hB2⟩ : ∃ B2, B2 = w.heap.size + 1 + 1 := ⟨_, rfl⟩
  obtain ⟨B1, hB1⟩ : ∃ B1, B1 = w.heap.size + 1 := ⟨_, rfl⟩
  have n3 : B1 ≠ B2 := by omega
  have n4 : B2 ≠ B1 := by omega
  rw [← hB2, ← hB1] at hfin
  rw [← hB2] at c0 c1 f1
  rw [← hB1] at y0 y1 g0 g1
  rw [← hB2, ← hB1]
  clear hB2 hB1
  go_wp2
  refine bodyPost_ret (results_cell_row (by rfl) _ _ B1 29 #[.int .i64 r, .slice bo xs.length bcap] (0, 0) _ rfl (hfin.out _ _ _ _ rfl).2.2 Try.underlying29 rfl hsi.out) rfl ?_
  exact ⟨_, rfl, (hfin.out _ _ _ _ rfl).1, (hfin.out _ _ _ _ rfl).2.1⟩
theorem eqShelf_same (r : Int) (va vb : Value) (xs : List It) (w : World) (ha : RdG itf 5 w va xs) (hb : RdG itf 5 w vb xs) (hl : xs.length ≤ 1048576) :
    Calls Try.prog 12 #[.agg #[.int .i64 r, va], .agg #[.int .i64 r, vb]] w fun e w' => e = .returned (.bool true) ∧ Below w.heap.size w w' := by
  obtain ⟨ao, cap, rfl⟩ := rdG_shape ha
  obtain ⟨bo, bcap, rfl⟩ := rdG_shape hb
  have hB := ((Below.refl w.heap.size w).alloc (Nat.le_refl _) (.cells #[.int .i64 r, .slice ao xs.length cap] 29)).alloc (by simp) (.cells #[.int .i64 r, .slice bo xs.length bcap] 29)
  have hc := Lib.hid (eqItemS_same _ _ xs _ (rdG_below ha hB) (rdG_below hb hB) hl)
  clear ha hb
  go_enter Try.func12, Try.ntmps12
  go_wp2_with fail
  refine hc.out.mono ?_
  rintro e w1 ⟨rfl, hb1⟩
  have hB1 := hB.trans (hb1.mono hB.size)
  clear hb1 hc hB
  go_wp2
  go_ret
  exact ⟨by first | rfl | simp, hB1⟩
end Go.Proofs.Ytfoncmeplofedaq
