/- THE LAWS' OWN READERS OVER ROWS OF ITEMS: markItemS, heldItemS; markShelf, heldShelf. -/
import Derived.Test.YtfoncmeplofedaqGreatDoorBuna
import Derived.Test.YtfoncmeplofedaqGreatDoorBlobM
namespace Go.Proofs.YtfoncmeplofedaqGreatDoor
open Go.RowKit
set_option linter.unusedVariables false
def mk3 (t : Nat) : Bool := t % 3 == 0
def mkIt (t : Nat) : It := ((t : Int), mtxt (t + 1), ((t + 2 : Nat) : Int), ((t + 3 : Nat) : Int), mk3 (t + 4))
/-- what markItemS lays from m on -/
def marksIt (m n : Nat) : List It := (List.range n).map fun (j : Nat) => mkIt (m + 5 * j)
theorem marksIt_len (m n : Nat) : (marksIt m n).length = n := by simp [marksIt]
theorem marksIt_succ (m k : Nat) : marksIt m (k + 1) = marksIt m k ++ [mkIt (m + 5 * k)] := by simp [marksIt, List.range_succ]
theorem marksIt_get {m n j : Nat} (h : j < n) : (marksIt m n).getD j it0 = mkIt (m + 5 * j) := by simp [marksIt, List.getD, h]
theorem marksIt_step (m k : Nat) (xs : List It) (h : k < xs.length) : (marksIt m k ++ xs.drop k).set k (mkIt (m + 5 * k)) = marksIt m (k + 1) ++ xs.drop (k + 1) := by
  rw [List.drop_eq_getElem_cons h, marksIt_succ, List.set_append_right _ _ (by rw [marksIt_len]; exact Nat.le_refl _), marksIt_len, Nat.sub_self, List.set_cons_zero, List.append_assoc]
  rfl
theorem mk3_int (t : Nat) : (((t : Int) + 1 + 1 + 1 + 1) % 3 == 0) = mk3 (t + 4) := by
  unfold mk3
  by_cases h : (t + 4) % 3 = 0
  · rw [h, show ((t : Int) + 1 + 1 + 1 + 1) % 3 = 0 by omega]; rfl
  · rw [beq_eq_false_iff_ne.2 h, beq_eq_false_iff_ne.2 (show ((t : Int) + 1 + 1 + 1 + 1) % 3 ≠ 0 by omega)]
set_option maxHeartbeats 4000000 in
set_option maxRecDepth 100000 in
theorem markItemS_any (base : Nat) (v : Value) (m : Nat) (xs : List It) (w : World) (hown : OwnI w base v xs) (hl : xs.length ≤ 1048576) (hm : 0 < m) (hm2 : m ≤ 4194304) :
    Calls Tryz.prog 26 #[v, .int .i64 (m : Int)] w fun e w' => e = .returned (.int .i64 ((m + 5 * xs.length : Nat) : Int)) ∧ OwnI w' base v (marksIt m xs.length) ∧ w.grownBy w' v.ownBlock := by
  have HO9 : Hid (∀ (w9 : World), w9.ownsRow base 69 5 v xs.length (rowC itf (marksIt m xs.length)) → OwnI w9 base v (marksIt m xs.length)) := fun w9 h => by rw [OwnI, OwnG, marksIt_len]; exact h
  rcases ownG_cases itW hown with ⟨rfl, rfl⟩ | ⟨g, cap, cur, rfl, hbg, hgs, _⟩
  · go_enter Tryz.func26, Tryz.ntmps26
    go_wp2
    refine wp_loop_rounds 1 ?_
    rw [rounds_succ]
    go_wp2
    go_ret
    exact ⟨ret_int (by simp), hown, World.grownBy.refl _ _⟩
  · obtain ⟨n, hnx⟩ : ∃ n, n = xs.length := ⟨_, rfl⟩
    rw [OwnI, OwnG, ← hnx] at hown
    rw [← hnx] at hl HO9 ⊢
    have HX : Hid (n = xs.length) := hnx
    clear hnx
    go_enter Tryz.func26, Tryz.ntmps26
    go_wp2
    go_loopw [1, 5] (fun q i wr => ∃ k t : Nat, k ≤ n ∧ q = .int .i64 t ∧ Hid (t = m + 5 * k) ∧ t ≤ 9437184 ∧ i = .int .i64 k ∧ wr.ownsRow base 69 5 (.slice (some ⟨g, 0, none⟩) n cap) n (rowC itf (marksIt m k ++ xs.drop k)) ∧ w.grownBy wr (some g)) (fun _ i _ => n - (intOf i).toNat)
    case atStart => exact ⟨0, m, Nat.zero_le _, rfl, rfl, by omega, rfl, by simpa [marksIt] using hown, World.grownBy.refl _ _⟩
    case round =>
      rename World => w1
      obtain ⟨k, t, hk, rfl, ht, htb, rfl, ho, hg⟩ := hrel
      by_cases hlt : k < n
      · have hkx : k < xs.length := by have := HX.out; omega
        have hll : (marksIt m k ++ xs.drop k).length = n := by have := HX.out; rw [List.length_append, marksIt_len, List.length_drop]; omega
        have hlc : (rowC itf (marksIt m k ++ xs.drop k)).length = n * 5 := by rw [rowC_len itW, hll]
        have f0 := ho.cellAt (k * 5) (by omega)
        have z0 := ho.frozenAt (k * 5)
        obtain ⟨u0, hu0⟩ : ∃ u0, (rowC itf (marksIt m k ++ xs.drop k))[k * 5]? = some u0 := ⟨_, List.getElem?_eq_getElem (by omega)⟩
        rw [hu0] at f0
        have hst1 := ho.stored (k * 5) (.int .i64 (t : Int))
        have hcall : Hid (Calls Tryz.prog 25 #[.int .i64 ((t : Int) + 1)] (w1.setCell ⟨g, k * 5, none⟩ (.int .i64 (t : Int))) fun e w' => e = .returned (.string (mtxt (t + 1))) ∧ Below (w1.setCell ⟨g, k * 5, none⟩ (.int .i64 (t : Int))).heap.size (w1.setCell ⟨g, k * 5, none⟩ (.int .i64 (t : Int))) w') := by
          have h := markTextB_any (t + 1) (w1.setCell ⟨g, k * 5, none⟩ (.int .i64 (t : Int))) (by omega) (by omega)
          rw [show (((t + 1 : Nat)) : Int) = (t : Int) + 1 by omega] at h
          exact h
        have HG1 := Lib.hid (grown_trans hg hst1.2)
        have HO1 := Lib.hid hst1.1
        clear hu0 hst1 hg ho
        go_wp2_with fail
        refine hcall.out.mono ?_
        rintro e w3 ⟨rfl, hb3⟩
        have ho3 := owns_below HO1.out hb3
        have hg3 : w.grownBy w3 (some g) := grown_below HG1.out hb3
        have hlc1 : ((rowC itf (marksIt m k ++ xs.drop k)).set (k * 5) (.int .i64 (t : Int))).length = n * 5 := by rw [List.length_set, hlc]
        have f1 := ho3.cellAt (k * 5 + 1) (by omega)
        obtain ⟨u1, hu1⟩ : ∃ u0, ((rowC itf (marksIt m k ++ xs.drop k)).set (k * 5) (.int .i64 (t : Int)))[k * 5 + 1]? = some u0 := ⟨_, List.getElem?_eq_getElem (by omega)⟩
        rw [hu1] at f1
        have z1 := ho3.frozenAt (k * 5 + 1)
        have f2 := ho3.cellAt (k * 5 + 2) (by omega)
        obtain ⟨u2, hu2⟩ : ∃ u0, ((rowC itf (marksIt m k ++ xs.drop k)).set (k * 5) (.int .i64 (t : Int)))[k * 5 + 2]? = some u0 := ⟨_, List.getElem?_eq_getElem (by omega)⟩
        rw [hu2] at f2
        have z2 := ho3.frozenAt (k * 5 + 2)
        have f3 := ho3.cellAt (k * 5 + 3) (by omega)
        obtain ⟨u3, hu3⟩ : ∃ u0, ((rowC itf (marksIt m k ++ xs.drop k)).set (k * 5) (.int .i64 (t : Int)))[k * 5 + 3]? = some u0 := ⟨_, List.getElem?_eq_getElem (by omega)⟩
        rw [hu3] at f3
        have z3 := ho3.frozenAt (k * 5 + 3)
        have f4 := ho3.cellAt (k * 5 + 4) (by omega)
        obtain ⟨u4, hu4⟩ : ∃ u0, ((rowC itf (marksIt m k ++ xs.drop k)).set (k * 5) (.int .i64 (t : Int)))[k * 5 + 4]? = some u0 := ⟨_, List.getElem?_eq_getElem (by omega)⟩
        rw [hu4] at f4
        have z4 := ho3.frozenAt (k * 5 + 4)
        have hst2 := ho3.stored (k * 5 + 1) (.string (mtxt (t + 1)))
        have hst3 := hst2.1.stored (k * 5 + 2) (.int .i64 ((t : Int) + 1 + 1))
        have hst4 := hst3.1.stored (k * 5 + 3) (.int .i64 ((t : Int) + 1 + 1 + 1))
        have hst5 := hst4.1.stored (k * 5 + 4) (.bool (((t : Int) + 1 + 1 + 1 + 1) % 3 == 0))
        have htt := ht.out
        rw [it_set _ k ((t : Int), mtxt (t + 1), (t : Int) + 1 + 1, (t : Int) + 1 + 1 + 1, ((t : Int) + 1 + 1 + 1 + 1) % 3 == 0) (by omega), show ((t : Int), mtxt (t + 1), (t : Int) + 1 + 1, (t : Int) + 1 + 1 + 1, ((t : Int) + 1 + 1 + 1 + 1) % 3 == 0) = mkIt (m + 5 * k) by rw [← htt, mk3_int]; rfl, marksIt_step m k xs hkx] at hst5
        have HO := Lib.hid hst5.1
        have HG := Lib.hid (grown_trans hg3 (grown_trans hst2.2 (grown_trans hst3.2 (grown_trans hst4.2 hst5.2))))
        have hbk : Hid (t + 5 = m + 5 * (k + 1) ∧ t + 5 ≤ 9437184) := ⟨by omega, by have := HX.out; omega⟩
        obtain ⟨tx, htx⟩ : ∃ tx, tx = mtxt (t + 1) := ⟨_, rfl⟩
        rw [← htx] at HO HG ⊢
        clear hu1 hu2 hu3 hu4 hst2 hst3 hst4 hst5 ho3 hg3 hb3 htt hlc hlc1 hll hcall HO1 HG1 htx f0 z0
        go_wp2
        go_roundw
        case rel => exact ⟨k + 1, t + 5, by omega, by go_num, hbk.out.1, hbk.out.2, by go_num, HO.out, HG.out⟩
        case measure => simp [intOf]; omega
      · have hk9 : k = n := by omega
        have hx := HX.out
        rw [hk9, List.drop_of_length_le (by omega), List.append_nil] at ho
        have HO := Lib.hid (HO9.out _ ho)
        have HT : Hid (t = m + 5 * n) := by have h9 := ht.out; rw [hk9] at h9; exact h9
        clear hx hk9 ho
        go_wp2
        go_ret
        exact ⟨ret_int (by rw [HT.out]), HO.out, hg⟩
set_option maxHeartbeats 4000000 in
set_option maxRecDepth 100000 in
theorem heldItemS_any (v : Value) (m n : Nat) (w : World) (hrd : RdG itf 5 w v (marksIt m n)) (hl : n ≤ 1048576) (hm : 0 < m) (hm2 : m ≤ 4194304) :
    Calls Tryz.prog 27 #[v, .int .i64 (m : Int)] w fun e w' => e = .returned (.int .i64 ((m + 5 * n : Nat) : Int)) ∧ Below w.heap.size w w' := by
  rcases rdG_cases hrd with ⟨h0, ao, cap, rfl⟩ | ⟨hp, b, off, cap, rfl, _, hlt, hc⟩
  · have h1 := congrArg List.length h0
    rw [marksIt_len] at h1
    simp only [List.length_nil] at h1
    subst h1
    go_enter Tryz.func27, Tryz.ntmps27
    go_wp2
    refine wp_loop_rounds 1 ?_
    rw [rounds_succ]
    go_wp2
    go_ret
    exact ⟨ret_int (by simp), Below.refl _ _⟩
  · rw [marksIt_len] at hp ⊢
    have HC : Hid (∀ (j : Nat) (w9 : World), j < n → Below w.heap.size w w9 → w9.cell? ⟨b, off + j * 5, none⟩ = some (.int .i64 (mkIt (m + 5 * j)).1) ∧ w9.cell? ⟨b, off + j * 5 + 1, none⟩ = some (.string (mkIt (m + 5 * j)).2.1) ∧ w9.cell? ⟨b, off + j * 5 + 2, none⟩ = some (.int .i64 (mkIt (m + 5 * j)).2.2.1) ∧ w9.cell? ⟨b, off + j * 5 + 3, none⟩ = some (.int .i64 (mkIt (m + 5 * j)).2.2.2.1) ∧ w9.cell? ⟨b, off + j * 5 + 4, none⟩ = some (.bool (mkIt (m + 5 * j)).2.2.2.2)) := fun j w9 hj hb9 => by
      have := it_cells (cellsG_below hc hlt hb9) (j := j) (by rw [marksIt_len]; exact hj)
      rw [marksIt_get hj] at this
      exact this
    clear hc hp hrd
    go_enter Tryz.func27, Tryz.ntmps27
    go_wp2
    go_loopw [1, 5] (fun q i wr => ∃ k t : Nat, k ≤ n ∧ q = .int .i64 t ∧ Hid (t = m + 5 * k) ∧ t ≤ 9437184 ∧ i = .int .i64 k ∧ Hid (Below w.heap.size w wr)) (fun _ i _ => n - (intOf i).toNat)
    case atStart => exact ⟨0, m, Nat.zero_le _, rfl, rfl, by omega, rfl, Below.refl _ _⟩
    case round =>
      rename World => w1
      obtain ⟨k, t, hk, rfl, ht, htb, rfl, hb⟩ := hrel
      have hs := hb.out.size
      by_cases hltk : k < n
      · have HK : Hid (∀ w9 : World, Below w.heap.size w w9 → w9.cell? ⟨b, off + k * 5, none⟩ = some (.int .i64 (t : Int)) ∧ w9.cell? ⟨b, off + k * 5 + 1, none⟩ = some (.string (mtxt (t + 1))) ∧ w9.cell? ⟨b, off + k * 5 + 2, none⟩ = some (.int .i64 ((t : Int) + 1 + 1)) ∧ w9.cell? ⟨b, off + k * 5 + 3, none⟩ = some (.int .i64 ((t : Int) + 1 + 1 + 1)) ∧ w9.cell? ⟨b, off + k * 5 + 4, none⟩ = some (.bool (((t : Int) + 1 + 1 + 1 + 1) % 3 == 0))) := fun w9 h9 => by
          have h := HC.out k w9 hltk h9
          rw [← ht.out] at h
          rw [mk3_int]
          exact h
        obtain ⟨d0, d1, d2, d3, d4⟩ := HK.out w1 hb.out
        have HCALL : Hid (∀ W : World, Calls Tryz.prog 25 #[.int .i64 ((t : Int) + 1)] W fun e w' => e = .returned (.string (mtxt (t + 1))) ∧ Below W.heap.size W w') := fun W => by
          have h := markTextB_any (t + 1) W (by have := ht.out; omega) (by omega)
          rw [show (((t + 1 : Nat)) : Int) = (t : Int) + 1 by omega] at h
          exact h
        obtain ⟨x, hxx⟩ : ∃ x, x = mtxt (t + 1) := ⟨_, rfl⟩
        rw [← hxx] at d1 HK HCALL
        have hbk : Hid (t + 5 = m + 5 * (k + 1) ∧ t + 5 ≤ 9437184) := ⟨by have := ht.out; omega, by have := ht.out; omega⟩
        clear hxx
        go_wp2
        go_region_with (go_at_call 25; refine (HCALL.out _).mono ?_; rintro e w2 ⟨rfl, hb2⟩; have hb3 : Below w.heap.size w w2 := hb.out.drew.trans (hb2.mono hs); obtain ⟨e0, e1, e2, e3, e4⟩ := HK.out w2 hb3)
        all_goals
          have HB3 := Lib.hid hb3
          clear hb2 hb3 HCALL HK
          go_wp2
          go_roundw
          case rel => exact ⟨k + 1, t + 5, by omega, by go_num, hbk.out.1, hbk.out.2, by go_num, HB3⟩
          case measure => simp [intOf]; omega
      · have HT : Hid (t = m + 5 * n) := by have h9 := ht.out; rw [show k = n by omega] at h9; exact h9
        go_wp2
        go_ret
        exact ⟨ret_int (by rw [HT.out]), hb.out⟩
theorem grown_any {w w' : World} (h : Below w.heap.size w w') (r : Option Nat) : w.grownBy w' r := ⟨h.os, h.tape, h.output, h.size, fun k hk _ => h.block k hk⟩
theorem markShelf_any (base : Nat) (r : Int) (v : Value) (m : Nat) (xs : List It) (w : World) (hown : OwnI w base v xs) (hl : xs.length ≤ 1048576) (hm : 0 < m) (hm2 : m ≤ 4194304) :
    Calls Tryz.prog 11 #[.agg #[.int .i64 r, v], .int .i64 (m : Int)] w fun e w' => e = .returned (.int .i64 ((m + 5 * xs.length : Nat) : Int)) ∧ OwnI w' base v (marksIt m xs.length) ∧ w.grownBy w' v.ownBlock := by
  have hb := (Below.refl w.heap.size w).alloc (Nat.le_refl _) (.cells #[.int .i64 r, v] 26)
  have hg0 : w.grownBy (w.alloc (.cells #[.int .i64 r, v] 26)) v.ownBlock := grown_any hb _
  have hc := Lib.hid (markItemS_any base v m xs _ (owns_below hown hb) hl hm hm2)
  obtain ⟨ao, cap, rfl⟩ := ownG_shape hown
  clear hown
  go_enter Tryz.func11, Tryz.ntmps11
  go_wp2_with fail
  refine hc.out.mono ?_
  rintro e w1 ⟨rfl, ho1, hg1⟩
  have hG := grown_trans hg0 hg1
  clear hc hg0 hg1 hb
  go_wp2
  go_ret
  exact ⟨rfl, ho1, hG⟩
theorem heldShelf_any (r : Int) (v : Value) (m n : Nat) (w : World) (hrd : RdG itf 5 w v (marksIt m n)) (hl : n ≤ 1048576) (hm : 0 < m) (hm2 : m ≤ 4194304) :
    Calls Tryz.prog 12 #[.agg #[.int .i64 r, v], .int .i64 (m : Int)] w fun e w' => e = .returned (.int .i64 ((m + 5 * n : Nat) : Int)) ∧ Below w.heap.size w w' := by
  have hb := (Below.refl w.heap.size w).alloc (Nat.le_refl _) (.cells #[.int .i64 r, v] 26)
  have hc := Lib.hid (heldItemS_any v m n _ (rdG_below hrd hb) hl hm hm2)
  obtain ⟨ao, cap, hv⟩ := rdG_shape hrd
  rw [marksIt_len] at hv
  clear hrd
  subst hv
  obtain ⟨q, hq⟩ : ∃ q, q = m + 5 * n := ⟨_, rfl⟩
  rw [← hq] at hc ⊢
  clear hq
  go_enter Tryz.func12, Tryz.ntmps12
  go_wp2_with fail
  refine hc.out.mono ?_
  rintro e w1 ⟨rfl, hb1⟩
  have hB := hb.trans (hb1.mono hb.size)
  clear hc hb hb1
  go_wp2
  go_ret
  exact ⟨rfl, hB⟩
end Go.Proofs.YtfoncmeplofedaqGreatDoor
