/- THE LAWS' OWN READERS OVER NOTES: szNote, toNote, of rows of them. -/
import Derived.Test.YtfoncmeplofedaqGreatDoorNtm
import Derived.Test.YtfoncmeplofedaqGreatDoorBuna
import Derived.Deep.RegionWith
import Derived.Deep.RegionHeld
import Derived.Deep.LoopGhost
import Derived.Deep.MidRow
import Derived.Lib.Hide
namespace Go.Proofs.YtfoncmeplofedaqGreatDoor
open Go.RowKit
set_option linter.unusedVariables false
/-- the texts of a row of notes -/
abbrev ntTx (l : List Nt) : List ByteArray := l.map fun p => p.2.2
theorem ntTx_get {l : List Nt} {k : Nat} (h : k < l.length) : (ntTx l).getD k ByteArray.empty = (l.getD k nt0).2.2 := by simp [ntTx, List.getD, h]
theorem szNote_any (k a : Int) (t : ByteArray) (z : Int) (w : World) (hz : 0 ≤ z ∧ z ≤ 1048576) (ht : t.size ≤ 9223372036854775807) :
    Calls Tryz.prog 13 #[.agg #[.int .i64 k, .int .i64 a, .string t], .int .i64 z] w fun e w' => e = .returned (.int .i64 (if z - (t.size : Int) < 0 then -1 else z - (t.size : Int))) ∧ Below w.heap.size w w' := by
  have hb := (Below.refl w.heap.size w).alloc (Nat.le_refl _) (.cells #[.int .i64 k, .int .i64 a, .string t] 38)
  by_cases h : z - (t.size : Int) < 0
  · rw [if_pos h]
    go_enter Tryz.func13, Tryz.ntmps13
    go_wp2
    go_ret
    exact ⟨rfl, hb⟩
  · rw [if_neg h]
    go_enter Tryz.func13, Tryz.ntmps13
    go_wp2
    go_ret
    exact ⟨rfl, hb⟩
theorem toNote_any (k a : Int) (t : ByteArray) (w : World) :
    Calls Tryz.prog 19 #[.agg #[.int .i64 k, .int .i64 a, .string t]] w fun e w' => e = .returned (.agg #[.int .i64 k, .int .i64 a, .string t]) ∧ Below w.heap.size w w' := by
  have hb := (((Below.refl w.heap.size w).alloc (Nat.le_refl _) (.cells #[.int .i64 k, .int .i64 a, .string t] 38)).alloc (by simp) (.cells #[.int .i64 k, .int .i64 a, .string t] 40)).alloc (by simp; omega) (.cells #[.int .i64 k, .int .i64 a, .string t] 40)
  go_enter Tryz.func19, Tryz.ntmps19
  go_wp2
  exact bodyPost_ret (v := .agg #[.int .i64 k, .int .i64 a, .string t]) (by simp [results, Tryz.results19, go_sem]) rfl ⟨rfl, hb⟩
set_option maxHeartbeats 1000000 in
theorem szNoteS_any (va : Value) (xs : List Nt) (l : Int) (w : World) (ha : RdG ntf 3 w va xs) (hn : xs.length ≤ 9223372036854775807) (hs : ∀ p ∈ xs, p.2.2.size ≤ 9223372036854775807) (h0 : 0 ≤ l) (hl : l ≤ 1048576) :
    Calls Tryz.prog 4 #[va, .int .i64 l] w fun e w' => e = .returned (.int .i64 (szS (ntTx xs) l)) ∧ Below w.heap.size w w' := by
  have hlt0 : (ntTx xs).length = xs.length := List.length_map _
  by_cases hbig : l - (xs.length : Int) < 0
  · obtain ⟨ao, cap, rfl, _, _⟩ := ha
    have e : szS (ntTx xs) l = -1 := by unfold szS; rw [hlt0, if_pos hbig]
    rw [e]
    clear hs e hlt0
    go_enter Tryz.func4, Tryz.ntmps4
    go_wp2
    go_ret
    exact ⟨rfl, Below.refl _ _⟩
  · have e : szS (ntTx xs) l = szF (ntTx xs) (l - (xs.length : Int)) := by unfold szS; rw [hlt0, if_neg hbig]
    rw [e]
    clear e hn
    rcases rdG_cases ha with ⟨h1, ao, cap, rfl⟩ | ⟨hp, b, off, cap, rfl, _, hlt, hc⟩
    · subst h1
      go_enter Tryz.func4, Tryz.ntmps4
      go_wp2
      refine wp_loop_rounds 1 ?_
      rw [rounds_succ]
      go_wp2
      go_ret
      exact ⟨ret_int (by simp [szF]), Below.refl _ _⟩
    · have HC := Lib.hid hc
      have HS := Lib.hid hs
      have HL := Lib.hid hlt0
      obtain ⟨n, hn⟩ : ∃ n, n = xs.length := ⟨_, rfl⟩
      rw [← hn] at hp hbig HL ⊢
      have HN := Lib.hid hn
      clear hc ha hn hs hlt0
      go_enter Tryz.func4, Tryz.ntmps4
      go_wp2
      go_loopw [1, 5] (fun q i wr => ∃ (k : Nat) (z : Int), k ≤ n ∧ q = .int .i64 z ∧ 0 ≤ z ∧ z ≤ 1048576 ∧ i = .int .i64 k ∧ Hid (szF (ntTx xs) (l - (n : Int)) = szF ((ntTx xs).drop k) z) ∧ Hid (Below w.heap.size w wr)) (fun _ i _ => n - (intOf i).toNat)
      case atStart => exact ⟨0, l - (n : Int), Nat.zero_le _, rfl, by omega, by omega, rfl, rfl, Below.refl _ _⟩
      case round =>
        rename World => w1
        obtain ⟨k, z, hk, rfl, hz0, hz1, rfl, hr, hb⟩ := hrel
        have hs1 := hb.out.size
        by_cases hltk : k < n
        · have hkx : k < xs.length := by have := HN.out; omega
          obtain ⟨d0, d1, d2⟩ := nt_cells (cellsG_below HC.out hlt hb.out) hkx
          have hsz : (xs.getD k nt0).2.2.size ≤ 9223372036854775807 := by
            have e : xs.getD k nt0 = xs[k] := by simp [List.getD, hkx]
            rw [e]; exact HS.out _ (List.getElem_mem hkx)
          have HR : Hid (szF (ntTx xs) (l - (n : Int)) = if z - ((xs.getD k nt0).2.2.size : Int) < 0 then -1 else szF ((ntTx xs).drop (k + 1)) (z - ((xs.getD k nt0).2.2.size : Int))) := by
            show _ = _
            rw [hr.out, szF_drop (ntTx xs) k z (by rw [HL.out]; exact hltk), ntTx_get hkx]
          obtain ⟨x, hxx⟩ : ∃ x, x = (xs.getD k nt0).2.2 := ⟨_, rfl⟩
          obtain ⟨y, hyy⟩ : ∃ y, y = (xs.getD k nt0).1 := ⟨_, rfl⟩
          rw [← hxx] at d2 hsz HR
          rw [← hyy] at d0
          obtain ⟨u2, h2⟩ : ∃ u, u = (xs.getD k nt0).2.1 := ⟨_, rfl⟩
          rw [← h2] at d1
          have hcall := Lib.hid (fun W => szNote_any y u2 x z W ⟨hz0, hz1⟩ hsz)
          clear hxx hyy hkx hr h2
          by_cases hneg : z - (x.size : Int) < 0
          · have HR3 : Hid (szF (ntTx xs) (l - (n : Int)) = -1) := by have h := HR.out; rw [if_pos hneg] at h; exact h
            have hc2 := hcall.out
            rw [if_pos hneg] at hc2
            clear HR hcall
            go_wp2_with fail
            refine (hc2 _).mono ?_
            rintro e w2 ⟨rfl, hb2⟩
            have HB2 := Lib.hid (hb.out.trans (hb2.mono hs1))
            clear hc2 hb2
            go_wp2
            go_ret
            exact ⟨ret_int HR3.out.symm, HB2.out⟩
          · have HR3 : Hid (szF (ntTx xs) (l - (n : Int)) = szF ((ntTx xs).drop (k + 1)) (z - (x.size : Int))) := by
              have h := HR.out
              rw [if_neg hneg] at h
              exact h
            have hc2 := hcall.out
            rw [if_neg hneg] at hc2
            clear HR hcall
            go_wp2_with fail
            refine (hc2 _).mono ?_
            rintro e w2 ⟨rfl, hb2⟩
            have HB2 := Lib.hid (hb.out.trans (hb2.mono hs1))
            clear hc2 hb2
            go_wp2
            go_roundw
            case rel => exact ⟨k + 1, z - (x.size : Int), by omega, by go_num, by omega, by omega, by go_num, HR3, HB2⟩
            case measure => simp [intOf]; omega
        · have HE : Hid (szF (ntTx xs) (l - (n : Int)) = z) := by
            show _ = _
            rw [hr.out, List.drop_of_length_le (by rw [HL.out]; omega)]
            rfl
          clear hr
          go_wp2
          go_ret
          exact ⟨ret_int HE.out.symm, hb.out⟩
abbrev ntZ : Nt := (0, 0, ⟨#[]⟩)
theorem made_notes (n : Nat) : (madeCells (Value.agg #[.int .i64 0, .int .i64 0, .string ⟨#[]⟩]).cells (n * 3)).toList = rowC ntf (List.replicate n ntZ) := made_G ntW (z := Value.agg #[.int .i64 0, .int .i64 0, .string ⟨#[]⟩]) rfl n
set_option maxHeartbeats 1000000 in
set_option maxRecDepth 100000 in
theorem toNoteS_any (va : Value) (xs : List Nt) (w : World) (ha : RdG ntf 3 w va xs) (hl : xs.length ≤ 1048576) :
    Calls Tryz.prog 6 #[va] w fun e w' => ∃ v, e = .returned v ∧ OwnNt w' w.heap.size v xs ∧ Below w.heap.size w w' := by
  obtain ⟨i0, hi, hz0, hz1, hz2⟩ := info_parts Tryz.infoNt
  rcases rdG_cases ha with ⟨h0, ao, cap, rfl⟩ | ⟨hp, b, off, cap, rfl, _, hlt, hc⟩
  · subst h0
    clear ha
    go_enter Tryz.func6, Tryz.ntmps6
    go_wp2_with (at_make; refine wpList_make_full _ rfl _ _ 29 rfl w.heap.size 40 i0 (.agg #[.int .i64 0, .int .i64 0, .string ⟨#[]⟩]) 3 Tryz.underlying29 hi hz0 hz1 _ _ _ _ 0 rfl rfl (by omega) (by omega) (by omega) (by decide) ?c0 ?_)
    case c0 => exact Nat.le_refl _
    intro w0 hmade hg0
    have hb0 : Below w.heap.size w w0 := (Below.refl _ _).grown hg0 (Nat.le_refl _) (fun k hk => by cases hk)
    have hmade2 : OwnNt w0 w.heap.size (.slice (some ⟨w.heap.size, 0, none⟩) 0 0) [] := by
      have h := hmade
      simp [madeCells] at h
      exact h
    clear hg0 hmade
    go_wp2
    refine wp_loop_rounds 1 ?_
    rw [rounds_succ]
    go_wp2
    go_ret
    exact ⟨_, rfl, hmade2, hb0⟩
  · obtain ⟨n, hn⟩ : ∃ n, n = xs.length := ⟨_, rfl⟩
    have HA := Lib.hid hc
    have HO9 : Hid (∀ (v : Value) (w9 : World), w9.ownsRow w.heap.size 40 3 v n (rowC ntf xs) → OwnNt w9 w.heap.size v xs) := fun v w9 h => by rw [OwnNt, OwnG, ← hn]; exact h
    rw [← hn] at hp hl ⊢
    have HN : Hid (n = xs.length) := hn
    clear hc ha hn
    go_enter Tryz.func6, Tryz.ntmps6
    go_wp2_with (at_make; refine wpList_make_full _ rfl _ _ 29 rfl w.heap.size 40 i0 (.agg #[.int .i64 0, .int .i64 0, .string ⟨#[]⟩]) 3 Tryz.underlying29 hi hz0 hz1 _ _ _ _ n rfl rfl rfl rfl (by rw [hz2]; omega) (by unfold maxLen; omega) ?c1 ?_)
    case c1 => exact Nat.le_refl _
    intro w0 hmade hg0
    have hb0 : Below w.heap.size w w0 := (Below.refl _ _).grown hg0 (Nat.le_refl _) (fun k hk => by cases hk)
    have hm2 : w0.ownsRow w.heap.size 40 3 (.slice (some ⟨w.heap.size, 0, none⟩) n n) n (rowC ntf (xs.take 0 ++ List.replicate (n - 0) ntZ)) := by
      have h := hmade
      first | rw [made_notes n] at h | (have e9 := made_notes n; simp only [Value.cells] at e9; rw [e9] at h)
      simpa using h
    clear hg0 hmade
    go_wp2
    go_loopw [4] (fun i wr => ∃ k : Nat, k ≤ n ∧ i = .int .i64 k ∧ wr.ownsRow w.heap.size 40 3 (.slice (some ⟨w.heap.size, 0, none⟩) n n) n (rowC ntf (xs.take k ++ List.replicate (n - k) ntZ)) ∧ Hid (Below w.heap.size w wr)) (fun i _ => n - (intOf i).toNat)
    case atStart => exact ⟨0, Nat.zero_le _, rfl, hm2, hb0⟩
    case round =>
      rename World => w1
      obtain ⟨k, hk, rfl, ho, hb⟩ := hrel
      clear hb0 hm2
      have hs1 := hb.out.size
      by_cases hltk : k < n
      · have hkx : k < xs.length := by have := HN.out; omega
        obtain ⟨d0, d1, d2⟩ := nt_cells (cellsG_below HA.out hlt hb.out) hkx
        have hll : (xs.take k ++ List.replicate (n - k) ntZ).length = n := by rw [List.length_append, List.length_take, List.length_replicate]; omega
        have hlc : (rowC ntf (xs.take k ++ List.replicate (n - k) ntZ)).length = n * 3 := by rw [rowC_len ntW, hll]
        have hset := nt_set (xs.take k ++ List.replicate (n - k) ntZ) k (xs.getD k nt0) (by omega)
        rw [copied_nt hkx hltk ntZ] at hset
        obtain ⟨x, hxx⟩ : ∃ x, x = xs.getD k nt0 := ⟨_, rfl⟩
        rw [← hxx] at d0 d1 d2 hset
        obtain ⟨x1, x2, x3⟩ := x
        simp only at d0 d1 d2 hset
        clear hxx
        have hcall := Lib.hid (fun W => toNote_any x1 x2 x3 W)
        go_wp2_with fail
        refine (hcall.out w1).mono ?_
        rintro e w2 ⟨rfl, hb2⟩
        have hs2 := hb2.size
        have ho2 := owns_below ho hb2
        have HB2 := Lib.hid (hb.out.trans (hb2.mono hs1))
        have f0 := ho2.cellAt (k * 3) (by omega)
        have f1 := ho2.cellAt (k * 3 + 1) (by omega)
        have f2 := ho2.cellAt (k * 3 + 2) (by omega)
        have z0 := ho2.frozenAt (k * 3)
        have z1 := ho2.frozenAt (k * 3 + 1)
        have z2 := ho2.frozenAt (k * 3 + 2)
        obtain ⟨u0, hu0⟩ : ∃ u0, (rowC ntf (xs.take k ++ List.replicate (n - k) ntZ))[k * 3]? = some u0 := ⟨_, List.getElem?_eq_getElem (by omega)⟩
        rw [hu0] at f0
        obtain ⟨u1, hu1⟩ : ∃ u0, (rowC ntf (xs.take k ++ List.replicate (n - k) ntZ))[k * 3 + 1]? = some u0 := ⟨_, List.getElem?_eq_getElem (by omega)⟩
        rw [hu1] at f1
        obtain ⟨u2, hu2⟩ : ∃ u0, (rowC ntf (xs.take k ++ List.replicate (n - k) ntZ))[k * 3 + 2]? = some u0 := ⟨_, List.getElem?_eq_getElem (by omega)⟩
        rw [hu2] at f2
        have hst1 := ho2.stored (k * 3) (.int .i64 x1)
        have hst2 := hst1.1.stored (k * 3 + 1) (.int .i64 x2)
        have hst3 := hst2.1.stored (k * 3 + 2) (.string x3)
        rw [hset] at hst3
        have HO := Lib.hid hst3.1
        have HG := Lib.hid (grown_trans hst1.2 (grown_trans hst2.2 hst3.2))
        clear hcall hb2 ho ho2 hst1 hst2 hst3 hset hu0 hu1 hu2 hll hlc hb d0 d1 d2
        go_wp2
        go_roundw
        case rel => exact ⟨k + 1, by omega, by go_num, HO.out, HB2.out.grown HG.out HB2.out.size (fun g h => by cases h; exact Nat.le_refl _)⟩
        case measure => simp [intOf]; omega
      · have hk9 : k = n := by omega
        rw [hk9, List.take_of_length_le (by have := HN.out; omega), Nat.sub_self, List.replicate_zero, List.append_nil] at ho
        have HO := Lib.hid (HO9.out _ _ ho)
        clear ho hk9
        go_wp2
        go_ret
        exact ⟨_, rfl, HO.out, hb.out⟩
end Go.Proofs.YtfoncmeplofedaqGreatDoor
