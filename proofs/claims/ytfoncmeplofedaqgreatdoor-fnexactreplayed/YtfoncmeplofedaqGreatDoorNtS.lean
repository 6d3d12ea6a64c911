/- THE LAWS' OWN READERS OVER ROWS OF NOTES: szNote(S), toNote(S), eqNote(S) (of two that are alike), markNoteS, heldNoteS. -/
import Derived.Test.YtfoncmeplofedaqGreatDoorNtm
import Derived.Test.YtfoncmeplofedaqGreatDoorNtBx
import Derived.Test.YtfoncmeplofedaqGreatDoorMarkT
import Derived.Test.YtfoncmeplofedaqGreatDoorBuna
import Derived.Deep.RegionWith
import Derived.Deep.RegionHeld
import Derived.Deep.LoopGhost
namespace Go.Proofs.YtfoncmeplofedaqGreatDoor
open Go.RowKit
set_option linter.unusedVariables false
theorem eqNote_same (k a : Int) (t : ByteArray) (w : World) :
    Calls Tryz.prog 24 #[.agg #[.int .i64 k, .int .i64 a, .string t], .agg #[.int .i64 k, .int .i64 a, .string t]] w fun e w' => e = .returned (.bool true) ∧ Below w.heap.size w w' := by
  have hb := Lib.hid (((Below.refl w.heap.size w).alloc (Nat.le_refl _) (.cells #[.int .i64 k, .int .i64 a, .string t] 40)).alloc (by simp) (.cells #[.int .i64 k, .int .i64 a, .string t] 40))
  go_enter Tryz.func24, Tryz.ntmps24
  go_wp2
  go_ret
  exact ⟨by first | rfl | simp, hb.out⟩
set_option maxHeartbeats 1000000 in
set_option maxRecDepth 100000 in
theorem eqNoteS_same (va vb : Value) (xs : List Nt) (w : World) (ha : RdG ntf 3 w va xs) (hb : RdG ntf 3 w vb xs) (hl : xs.length ≤ 16777216) :
    Calls Tryz.prog 9 #[va, vb] w fun e w' => e = .returned (.bool true) ∧ Below w.heap.size w w' := by
  rcases rdG_cases ha with ⟨h0, ao, cap, rfl⟩ | ⟨hp, b, off, cap, rfl, _, hlt, hc⟩
  · subst h0
    obtain ⟨bo, bcap, rfl⟩ := rdG_shape hb
    go_enter Tryz.func9, Tryz.ntmps9
    go_wp2
    refine wp_loop_rounds 1 ?_
    rw [rounds_succ]
    go_wp2
    go_ret
    exact ⟨rfl, Below.refl _ _⟩
  · rcases rdG_cases hb with ⟨h0, ao, cap', rfl⟩ | ⟨_, b', off', cap', rfl, _, hlt', hc'⟩
    · rw [h0] at hp; simp at hp
    · have HA : Hid (∀ j, j < xs.length → ∀ w', Below w.heap.size w w' → w'.cell? ⟨b, off + j * 3, none⟩ = some (.int .i64 (xs.getD j nt0).1) ∧ w'.cell? ⟨b, off + j * 3 + 1, none⟩ = some (.int .i64 (xs.getD j nt0).2.1) ∧ w'.cell? ⟨b, off + j * 3 + 2, none⟩ = some (.string (xs.getD j nt0).2.2)) := fun j hj w' h => nt_cells (cellsG_below hc hlt h) hj
      have HB : Hid (∀ j, j < xs.length → ∀ w', Below w.heap.size w w' → w'.cell? ⟨b', off' + j * 3, none⟩ = some (.int .i64 (xs.getD j nt0).1) ∧ w'.cell? ⟨b', off' + j * 3 + 1, none⟩ = some (.int .i64 (xs.getD j nt0).2.1) ∧ w'.cell? ⟨b', off' + j * 3 + 2, none⟩ = some (.string (xs.getD j nt0).2.2)) := fun j hj w' h => nt_cells (cellsG_below hc' hlt' h) hj
      obtain ⟨n, hn⟩ : ∃ n, n = xs.length := ⟨_, rfl⟩
      rw [← hn] at hl hp HA HB ⊢
      clear hc hc' hp hn ha hb
      go_enter Tryz.func9, Tryz.ntmps9
      go_wp2
      go_loopw [5] (fun i wr => ∃ k : Nat, k ≤ n ∧ i = .int .i64 k ∧ Hid (Below w.heap.size w wr)) (fun i _ => n - (intOf i).toNat)
      case atStart => exact ⟨0, Nat.zero_le _, rfl, Below.refl _ _⟩
      case round =>
        rename World => w1
        obtain ⟨k, hk, rfl, hB⟩ := hrel
        have hs1 := hB.out.size
        by_cases hltk : k < n
        · obtain ⟨d0, d1, d2⟩ := HA.out k hltk _ hB.out
          obtain ⟨e0, e1, e2⟩ := HB.out k hltk _ hB.out
          obtain ⟨x, hxx⟩ : ∃ x, x = xs.getD k nt0 := ⟨_, rfl⟩
          rw [← hxx] at d0 d1 d2 e0 e1 e2
          obtain ⟨x1, x2, x3⟩ := x
          clear hxx
          have hcall := Lib.hid (fun W => eqNote_same x1 x2 x3 W)
          have hltI : (k : Int) < (n : Int) := by omega
          go_wp2
          go_region_with (first | (go_at_call 24; refine (hcall.out _).mono ?_; rintro e w2 ⟨rfl, hb2⟩))
          all_goals
            have HB2 : Hid (Below w.heap.size w w2) := by first | exact hB.out.trans (hb2.mono hs1) | exact hB.out.drew.trans (hb2.mono hs1)
            clear hcall hb2
            go_wp2
            go_roundw
            case rel => exact ⟨k + 1, by omega, by go_num, HB2⟩
            case measure => simp [intOf]; omega
        · go_wp2
          go_ret
          exact ⟨rfl, hB.out⟩
def mkNt (t : Nat) : Nt := ((t : Int), ((t + 1 : Nat) : Int), mtxt (t + 2))
/-- what markNoteS lays from m on -/
def marksNt (m n : Nat) : List Nt := (List.range n).map fun (j : Nat) => mkNt (m + 3 * j)
theorem marksNt_len (m n : Nat) : (marksNt m n).length = n := by simp [marksNt]
theorem marksNt_succ (m k : Nat) : marksNt m (k + 1) = marksNt m k ++ [mkNt (m + 3 * k)] := by simp [marksNt, List.range_succ]
theorem marksNt_get {m n j : Nat} (h : j < n) : (marksNt m n).getD j nt0 = mkNt (m + 3 * j) := by simp [marksNt, List.getD, h]
theorem marksNt_step (m k : Nat) (xs : List Nt) (h : k < xs.length) : (marksNt m k ++ xs.drop k).set k (mkNt (m + 3 * k)) = marksNt m (k + 1) ++ xs.drop (k + 1) := by
  rw [List.drop_eq_getElem_cons h, marksNt_succ, List.set_append_right _ _ (by rw [marksNt_len]; exact Nat.le_refl _), marksNt_len, Nat.sub_self, List.set_cons_zero, List.append_assoc]
  rfl
set_option maxHeartbeats 4000000 in
set_option maxRecDepth 100000 in
theorem markNoteS_any (base : Nat) (v : Value) (m : Nat) (xs : List Nt) (w : World) (hown : OwnNt w base v xs) (hl : xs.length ≤ 1048576) (hm : 0 < m) (hm2 : m ≤ 4194304) :
    Calls Tryz.prog 10 #[v, .int .i64 (m : Int)] w fun e w' => e = .returned (.int .i64 ((m + 3 * xs.length : Nat) : Int)) ∧ OwnNt w' base v (marksNt m xs.length) ∧ w.grownBy w' v.ownBlock := by
  have HO9 : Hid (∀ (w9 : World), w9.ownsRow base 40 3 v xs.length (rowC ntf (marksNt m xs.length)) → OwnNt w9 base v (marksNt m xs.length)) := fun w9 h => by rw [OwnNt, OwnG, marksNt_len]; exact h
  rcases ownG_cases ntW hown with ⟨rfl, rfl⟩ | ⟨g, cap, cur, rfl, hbg, hgs, _⟩
  · go_enter Tryz.func10, Tryz.ntmps10
    go_wp2
    refine wp_loop_rounds 1 ?_
    rw [rounds_succ]
    go_wp2
    go_ret
    exact ⟨ret_int (by simp), hown, World.grownBy.refl _ _⟩
  · obtain ⟨n, hnx⟩ : ∃ n, n = xs.length := ⟨_, rfl⟩
    rw [OwnNt, OwnG, ← hnx] at hown
    rw [← hnx] at hl HO9 ⊢
    have HX : Hid (n = xs.length) := hnx
    clear hnx
    go_enter Tryz.func10, Tryz.ntmps10
    go_wp2
    go_loopw [1, 5] (fun q i wr => ∃ k t : Nat, k ≤ n ∧ q = .int .i64 t ∧ Hid (t = m + 3 * k) ∧ t ≤ 9437184 ∧ i = .int .i64 k ∧ wr.ownsRow base 40 3 (.slice (some ⟨g, 0, none⟩) n cap) n (rowC ntf (marksNt m k ++ xs.drop k)) ∧ w.grownBy wr (some g)) (fun _ i _ => n - (intOf i).toNat)
    case atStart => exact ⟨0, m, Nat.zero_le _, rfl, rfl, by omega, rfl, by simpa [marksNt] using hown, World.grownBy.refl _ _⟩
    case round =>
      rename World => w1
      obtain ⟨k, t, hk, rfl, ht, htb, rfl, ho, hg⟩ := hrel
      by_cases hlt : k < n
      · have hkx : k < xs.length := by have := HX.out; omega
        have hll : (marksNt m k ++ xs.drop k).length = n := by have := HX.out; rw [List.length_append, marksNt_len, List.length_drop]; omega
        have hlc : (rowC ntf (marksNt m k ++ xs.drop k)).length = n * 3 := by rw [rowC_len ntW, hll]
        have f0 := ho.cellAt (k * 3) (by omega)
        have z0 := ho.frozenAt (k * 3)
        obtain ⟨u0, hu0⟩ : ∃ u0, (rowC ntf (marksNt m k ++ xs.drop k))[k * 3]? = some u0 := ⟨_, List.getElem?_eq_getElem (by omega)⟩
        rw [hu0] at f0
        have f1 := ho.cellAt (k * 3 + 1) (by omega)
        have z1 := ho.frozenAt (k * 3 + 1)
        obtain ⟨u1, hu1⟩ : ∃ u0, (rowC ntf (marksNt m k ++ xs.drop k))[k * 3 + 1]? = some u0 := ⟨_, List.getElem?_eq_getElem (by omega)⟩
        rw [hu1] at f1
        have hst1 := ho.stored (k * 3) (.int .i64 (t : Int))
        have hst2 := hst1.1.stored (k * 3 + 1) (.int .i64 ((t : Int) + 1))
        have HCALL : Hid (∀ W : World, Calls Tryz.prog 25 #[.int .i64 ((t : Int) + 1 + 1)] W fun e w' => e = .returned (.string (mtxt (t + 2))) ∧ Below W.heap.size W w') := fun W => by
          have h := markTextB_any (t + 2) W (by omega) (by omega)
          rw [show (((t + 2 : Nat)) : Int) = (t : Int) + 1 + 1 by omega] at h
          exact h
        have HG2 := Lib.hid (grown_trans hg (grown_trans hst1.2 hst2.2))
        have HO2 := Lib.hid hst2.1
        clear hu0 hu1 hst1 hst2 hg ho
        go_wp2_with fail
        refine (HCALL.out _).mono ?_
        rintro e w3 ⟨rfl, hb3⟩
        have ho3 := owns_below HO2.out hb3
        have hg3 : w.grownBy w3 (some g) := grown_below HG2.out hb3
        have hlc1 : (((rowC ntf (marksNt m k ++ xs.drop k)).set (k * 3) (.int .i64 (t : Int))).set (k * 3 + 1) (.int .i64 ((t : Int) + 1))).length = n * 3 := by rw [List.length_set, List.length_set, hlc]
        have f2 := ho3.cellAt (k * 3 + 2) (by omega)
        obtain ⟨u2, hu2⟩ : ∃ u0, (((rowC ntf (marksNt m k ++ xs.drop k)).set (k * 3) (.int .i64 (t : Int))).set (k * 3 + 1) (.int .i64 ((t : Int) + 1)))[k * 3 + 2]? = some u0 := ⟨_, List.getElem?_eq_getElem (by omega)⟩
        rw [hu2] at f2
        have z2 := ho3.frozenAt (k * 3 + 2)
        have hst3 := ho3.stored (k * 3 + 2) (.string (mtxt (t + 2)))
        have htt := ht.out
        rw [nt_set _ k ((t : Int), (t : Int) + 1, mtxt (t + 2)) (by omega), show ((t : Int), (t : Int) + 1, mtxt (t + 2)) = mkNt (m + 3 * k) by rw [← htt]; rfl, marksNt_step m k xs hkx] at hst3
        have HO := Lib.hid hst3.1
        have HG := Lib.hid (grown_trans hg3 hst3.2)
        have hbk : Hid (t + 3 = m + 3 * (k + 1) ∧ t + 3 ≤ 9437184) := ⟨by omega, by have := HX.out; omega⟩
        obtain ⟨tx, htx⟩ : ∃ tx, tx = mtxt (t + 2) := ⟨_, rfl⟩
        rw [← htx] at HO HG ⊢
        clear hu2 hst3 ho3 hg3 hb3 htt hlc hlc1 hll HCALL HO2 HG2 htx f0 z0 f1 z1
        go_wp2
        go_roundw
        case rel => exact ⟨k + 1, t + 3, by omega, by go_num, hbk.out.1, hbk.out.2, by go_num, HO.out, HG.out⟩
        case measure => simp [intOf]; omega
      · have hk9 : k = n := by omega
        have hx := HX.out
        rw [hk9, List.drop_of_length_le (by omega), List.append_nil] at ho
        have HO := Lib.hid (HO9.out _ ho)
        have HT : Hid (t = m + 3 * n) := by have h9 := ht.out; rw [hk9] at h9; exact h9
        clear hx hk9 ho
        go_wp2
        go_ret
        exact ⟨ret_int (by rw [HT.out]), HO.out, hg⟩
end Go.Proofs.YtfoncmeplofedaqGreatDoor
