/- THE LAWS' OWN READERS OVER ROWS OF BLOBS: szBlobS, toBlobS, eqBlobS (of two that are alike), likeBlobs. -/
import Derived.Test.YtncmeocjiinmfalBlobs
import Derived.Test.YtncmeocjiinmfalStrs
import Derived.Deep.RegionWith
import Derived.Deep.RegionHeld
namespace Go.Proofs.Ytncmeocjiinmfal
open Go.RowKit
set_option linter.unusedVariables false
abbrev txs (l : List Bl) : List ByteArray := l.map Prod.snd
theorem txs_get {l : List Bl} {k : Nat} (h : k < l.length) : (txs l).getD k ByteArray.empty = (l.getD k bl0).2 := by simp [txs, List.getD, h]

theorem szBlob_any (d : Int) (t : ByteArray) (z : Int) (w : World) (hz : 0 ≤ z ∧ z ≤ 1048576) (ht : t.size ≤ 9223372036854775807) :
    Calls Try.prog 30 #[.agg #[.int .i64 d, .string t], .int .i64 z] w fun e w' => e = .returned (.int .i64 (if z - (t.size : Int) < 0 then -1 else z - (t.size : Int))) ∧ Below w.heap.size w w' := by
  have hb := (Below.refl w.heap.size w).alloc (Nat.le_refl _) (.cells #[.int .i64 d, .string t] 47)
  by_cases h : z - (t.size : Int) < 0
  · rw [if_pos h]
    go_enter Try.func30, Try.ntmps30
    go_wp2
    go_ret
    exact ⟨rfl, hb⟩
  · rw [if_neg h]
    go_enter Try.func30, Try.ntmps30
    go_wp2
    go_ret
    exact ⟨rfl, hb⟩
set_option maxHeartbeats 1000000 in
theorem szBlobS_any (va : Value) (xs : List Bl) (l : Int) (w : World) (ha : RdB w va xs) (hn : xs.length ≤ 9223372036854775807) (hs : ∀ p ∈ xs, p.2.size ≤ 9223372036854775807) (h0 : 0 ≤ l) (hl : l ≤ 1048576) :
    Calls Try.prog 9 #[va, .int .i64 l] w fun e w' => e = .returned (.int .i64 (szS (txs xs) l)) ∧ Below w.heap.size w w' := by
  have hlt0 : (txs xs).length = xs.length := List.length_map _
  by_cases hbig : l - (xs.length : Int) < 0
  · obtain ⟨ao, cap, rfl, _, _⟩ := ha
    have e : szS (txs xs) l = -1 := by unfold szS; rw [hlt0, if_pos hbig]
    rw [e]
    clear hs e hlt0
    go_enter Try.func9, Try.ntmps9
    go_wp2
    go_ret
    exact ⟨rfl, Below.refl _ _⟩
  · have e : szS (txs xs) l = szF (txs xs) (l - (xs.length : Int)) := by unfold szS; rw [hlt0, if_neg hbig]
    rw [e]
    clear e hn
    rcases rdB_cases ha with ⟨h1, ao, cap, rfl⟩ | ⟨hp, b, off, cap, rfl, _, hlt, hc⟩
    · subst h1
      go_enter Try.func9, Try.ntmps9
      go_wp2
      refine wp_loop_rounds 1 ?_
      rw [rounds_succ]
      go_wp2
      go_ret
      exact ⟨ret_int (by simp [szF]), Below.refl _ _⟩
    · have HC := Lib.hid hc
      have HS := Lib.hid hs
      have HL := Lib.hid hlt0
      obtain ⟨n, hn⟩ : ∃ n, n = xs.length := ⟨_, rfl⟩
      rw [← hn] at hp hbig HC HL ⊢
      have HN := Lib.hid hn
      clear hc ha hn hs hlt0
      go_enter Try.func9, Try.ntmps9
      go_wp2
      go_loopw [1, 5] (fun q i wr => ∃ (k : Nat) (z : Int), k ≤ n ∧ q = .int .i64 z ∧ 0 ≤ z ∧ z ≤ 1048576 ∧ i = .int .i64 k ∧ Hid (szF (txs xs) (l - (n : Int)) = szF ((txs xs).drop k) z) ∧ Hid (Below w.heap.size w wr)) (fun _ i _ => n - (intOf i).toNat)
      case atStart => exact ⟨0, l - (n : Int), Nat.zero_le _, rfl, by omega, by omega, rfl, rfl, Below.refl _ _⟩
      case round =>
        rename World => w1
        obtain ⟨k, z, hk, rfl, hz0, hz1, rfl, hr, hb⟩ := hrel
        have hs1 := hb.out.size
        by_cases hltk : k < n
        · have hkx : k < xs.length := by have := HN.out; omega
          obtain ⟨c0, c1⟩ := HC.out k hltk
          have d0 := (hb.out.cell (p := ⟨b, off + k * 2, none⟩) hlt).trans c0
          have d1 := (hb.out.cell (p := ⟨b, off + k * 2 + 1, none⟩) hlt).trans c1
          have hsz : (xs.getD k bl0).2.size ≤ 9223372036854775807 := by
            have e : xs.getD k bl0 = xs[k] := by simp [List.getD, hkx]
            rw [e]; exact HS.out _ (List.getElem_mem hkx)
          have HR : Hid (szF (txs xs) (l - (n : Int)) = if z - ((xs.getD k bl0).2.size : Int) < 0 then -1 else szF ((txs xs).drop (k + 1)) (z - ((xs.getD k bl0).2.size : Int))) := by
            show _ = _
            rw [hr.out, szF_drop (txs xs) k z (by rw [HL.out]; exact hltk), txs_get hkx]
          obtain ⟨x, hxx⟩ : ∃ x, x = (xs.getD k bl0).2 := ⟨_, rfl⟩
          obtain ⟨y, hyy⟩ : ∃ y, y = (xs.getD k bl0).1 := ⟨_, rfl⟩
          rw [← hxx] at d1 hsz HR
          rw [← hyy] at d0
          have hcall := Lib.hid (fun W => szBlob_any y x z W ⟨hz0, hz1⟩ hsz)
          clear hxx hyy hkx hr c0 c1
          by_cases hneg : z - (x.size : Int) < 0
          · have HR3 : Hid (szF (txs xs) (l - (n : Int)) = -1) := by have h := HR.out; rw [if_pos hneg] at h; exact h
            have hc2 := hcall.out
            rw [if_pos hneg] at hc2
            clear HR hcall
            go_wp2_with fail
            refine (hc2 _).mono ?_
            rintro e w2 ⟨rfl, hb2⟩
            have HB2 := Lib.hid (hb.out.trans (hb2.mono hs1))
            clear hc2 hb2
            go_wp2
            go_ret
            exact ⟨ret_int HR3.out.symm, HB2.out⟩
          · have HR3 : Hid (szF (txs xs) (l - (n : Int)) = szF ((txs xs).drop (k + 1)) (z - (x.size : Int))) := by
              have h := HR.out
              rw [if_neg hneg] at h
              exact h
            have hc2 := hcall.out
            rw [if_neg hneg] at hc2
            clear HR hcall
            go_wp2_with fail
            refine (hc2 _).mono ?_
            rintro e w2 ⟨rfl, hb2⟩
            have HB2 := Lib.hid (hb.out.trans (hb2.mono hs1))
            clear hc2 hb2
            go_wp2
            go_roundw
            case rel => exact ⟨k + 1, z - (x.size : Int), by omega, by go_num, by omega, by omega, by go_num, HR3, HB2⟩
            case measure => simp [intOf]; omega
        · have HE : Hid (szF (txs xs) (l - (n : Int)) = z) := by
            show _ = _
            rw [hr.out, List.drop_of_length_le (by rw [HL.out]; omega)]
            rfl
          clear hr
          go_wp2
          go_ret
          exact ⟨ret_int HE.out.symm, hb.out⟩
theorem toBlob_any (d : Int) (t : ByteArray) (w : World) :
    Calls Try.prog 35 #[.agg #[.int .i64 d, .string t]] w fun e w' => e = .returned (.agg #[.int .i64 d, .string t]) ∧ Below w.heap.size w w' := by
  have hb := (((Below.refl w.heap.size w).alloc (Nat.le_refl _) (.cells #[.int .i64 d, .string t] 47)).alloc (by simp) (.cells #[.int .i64 d, .string t] 51)).alloc (by simp; omega) (.cells #[.int .i64 d, .string t] 51)
  go_enter Try.func35, Try.ntmps35
  go_wp2
  exact bodyPost_ret (v := .agg #[.int .i64 d, .string t]) (by simp [results, Try.results35, go_sem]) rfl ⟨rfl, hb⟩
abbrev blZ : Bl := (0, ⟨#[]⟩)
theorem made_blobs (n : Nat) : (madeCells (Value.agg #[.int .i64 0, .string ⟨#[]⟩]).cells (n * 2)).toList = blC (List.replicate n blZ) := by
  have e : ∀ m, (madeCells (Value.agg #[.int .i64 0, .string ⟨#[]⟩]).cells m).toList = (List.range m).map fun i => (#[Value.int .i64 0, Value.string ⟨#[]⟩])[i % 2]! := fun m => by simp [madeCells, Value.cells]
  rw [e]
  induction n with
  | zero => rfl
  | succ n ih =>
    rw [show (n + 1) * 2 = n * 2 + 1 + 1 by omega, List.range_succ, List.range_succ, List.map_append, List.map_append, ih, List.replicate_succ', blC_append, List.append_assoc]
    congr 1
    simp only [List.map_cons, List.map_nil, show n * 2 % 2 = 0 by omega, show (n * 2 + 1) % 2 = 1 by omega]
    rfl
theorem made_blobs2 (n : Nat) : (madeCells #[.int .i64 0, .string ⟨#[]⟩] (n * 2)).toList = blC (List.replicate n blZ) := made_blobs n
theorem copied_step {l : List Bl} {n k : Nat} (h : k < l.length) (hn : k < n) (z : Bl) : (l.take k ++ List.replicate (n - k) z).set k (l.getD k bl0) = l.take (k + 1) ++ List.replicate (n - (k + 1)) z := by
  have e1 : n - k = (n - (k + 1)) + 1 := by omega
  have e2 : (l.take k).length = k := by rw [List.length_take]; omega
  rw [e1, List.replicate_succ, List.set_append_right _ _ (by omega), e2, Nat.sub_self, List.set_cons_zero, List.take_succ_eq_append_getElem h, List.append_assoc]
  simp [List.getD, h]
theorem Try.infoBl : (Try.prog.info? 51).map (fun i => (i.zero, i.size, i.bytes)) = some (some (.agg #[.int .i64 0, .string ⟨#[]⟩]), 2, 24) := by kernel_rfl
set_option maxHeartbeats 1000000 in
set_option maxRecDepth 100000 in
theorem toBlobS_any (va : Value) (xs : List Bl) (w : World) (ha : RdB w va xs) (hl : xs.length ≤ 1048576) :
    Calls Try.prog 11 #[va] w fun e w' => ∃ v, e = .returned v ∧ w'.ownsRow w.heap.size 51 2 v xs.length (blC xs) ∧ Below w.heap.size w w' := by
  obtain ⟨i0, hi, hz0, hz1, hz2⟩ := info_parts Try.infoBl
  rcases rdB_cases ha with ⟨h0, ao, cap, rfl⟩ | ⟨hp, b, off, cap, rfl, _, hlt, hc⟩
  · subst h0
    go_enter Try.func11, Try.ntmps11
    go_wp2_with (at_make; refine wpList_make_full _ rfl _ _ 24 rfl w.heap.size 51 i0 (.agg #[.int .i64 0, .string ⟨#[]⟩]) 2 Try.underlying24 hi hz0 hz1 _ _ _ _ 0 rfl rfl (by omega) (by omega) (by omega) (by decide) ?c0 ?_)
    case c0 => exact Nat.le_refl _
    intro w0 hmade hg0
    have hb0 : Below w.heap.size w w0 := (Below.refl _ _).grown hg0 (Nat.le_refl _) (fun k hk => by cases hk)
    have hmade2 : w0.ownsRow w.heap.size 51 2 (.slice (some ⟨w.heap.size, 0, none⟩) 0 0) 0 (blC []) := by
      have h := hmade
      simpa [madeCells, blC] using h
    clear hg0 hmade
    go_wp2
    refine wp_loop_rounds 1 ?_
    rw [rounds_succ]
    go_wp2
    go_ret
    exact ⟨_, rfl, hmade2, hb0⟩
  · obtain ⟨n, hn⟩ : ∃ n, n = xs.length := ⟨_, rfl⟩
    rw [← hn] at hc hp hl ⊢
    have HN : Hid (n = xs.length) := hn
    have HA := Lib.hid hc
    clear hc ha hn
    go_enter Try.func11, Try.ntmps11
    go_wp2_with (at_make; refine wpList_make_full _ rfl _ _ 24 rfl w.heap.size 51 i0 (.agg #[.int .i64 0, .string ⟨#[]⟩]) 2 Try.underlying24 hi hz0 hz1 _ _ _ _ n rfl rfl rfl rfl (by rw [hz2]; omega) (by unfold maxLen; omega) ?c1 ?_)
    case c1 => exact Nat.le_refl _
    intro w0 hmade hg0
    have hb0 : Below w.heap.size w w0 := (Below.refl _ _).grown hg0 (Nat.le_refl _) (fun k hk => by cases hk)
    have hm2 : w0.ownsRow w.heap.size 51 2 (.slice (some ⟨w.heap.size, 0, none⟩) n n) n (blC (xs.take 0 ++ List.replicate (n - 0) blZ)) := by
      have h := hmade
      first | rw [made_blobs2 n] at h | rw [made_blobs n] at h
      simpa using h
    clear hg0 hmade
    go_wp2
    go_loopw [4] (fun i wr => ∃ k : Nat, k ≤ n ∧ i = .int .i64 k ∧ wr.ownsRow w.heap.size 51 2 (.slice (some ⟨w.heap.size, 0, none⟩) n n) n (blC (xs.take k ++ List.replicate (n - k) blZ)) ∧ Hid (Below w.heap.size w wr)) (fun i _ => n - (intOf i).toNat)
    case atStart => exact ⟨0, Nat.zero_le _, rfl, hm2, hb0⟩
    case round =>
      rename World => w1
      obtain ⟨k, hk, rfl, ho, hb⟩ := hrel
      clear hb0 hm2
      have hs1 := hb.out.size
      by_cases hltk : k < n
      · have hkx : k < xs.length := by have := HN.out; omega
        obtain ⟨c0, c1⟩ := HA.out k hltk
        have d0 := (hb.out.cell (p := ⟨b, off + k * 2, none⟩) hlt).trans c0
        have d1 := (hb.out.cell (p := ⟨b, off + k * 2 + 1, none⟩) hlt).trans c1
        have hstep := copied_step (n := n) hkx hltk blZ
        obtain ⟨x, hxx⟩ : ∃ x, x = xs.getD k bl0 := ⟨_, rfl⟩
        rw [← hxx] at d0 d1 hstep
        obtain ⟨x1, x2⟩ := x
        have HST := Lib.hid hstep
        clear hxx c0 c1 hstep
        have hcall := Lib.hid (fun W => toBlob_any x1 x2 W)
        go_wp2_with fail
        refine (hcall.out w1).mono ?_
        rintro e w2 ⟨rfl, hb2⟩
        have hs2 := hb2.size
        have ho2 := owns_below ho hb2
        have HB2 := Lib.hid (hb.out.trans (hb2.mono hs1))
        have hll : (xs.take k ++ List.replicate (n - k) blZ).length = n := by rw [List.length_append, List.length_take, List.length_replicate]; omega
        obtain ⟨e0, e1⟩ := blC_get (xs.take k ++ List.replicate (n - k) blZ) k (by omega)
        have f0 := ho2.cellAt (k * 2) (by omega)
        have f1 := ho2.cellAt (k * 2 + 1) (by omega)
        rw [e0] at f0
        rw [e1] at f1
        have z0 := ho2.frozenAt (k * 2)
        have z1 := ho2.frozenAt (k * 2 + 1)
        have hst1 := ho2.stored (k * 2) (.int .i64 x1)
        have hst2 := hst1.1.stored (k * 2 + 1) (.string x2)
        rw [blC_set _ k (x1, x2) (by omega), HST.out] at hst2
        have HO := Lib.hid hst2.1
        have HG := Lib.hid (grown_trans hst1.2 hst2.2)
        obtain ⟨u0, hu0⟩ : ∃ u0, u0 = ((xs.take k ++ List.replicate (n - k) blZ).getD k bl0).1 := ⟨_, rfl⟩
        obtain ⟨u1, hu1⟩ : ∃ u1, u1 = ((xs.take k ++ List.replicate (n - k) blZ).getD k bl0).2 := ⟨_, rfl⟩
        rw [← hu0] at f0
        rw [← hu1] at f1
        clear hcall hb2 ho ho2 hst1 hst2 e0 e1 hu0 hu1 hll hb d0 d1
        go_wp2
        go_roundw
        case rel => exact ⟨k + 1, by omega, by go_num, HO.out, HB2.out.grown HG.out HB2.out.size (fun g h => by cases h; exact Nat.le_refl _)⟩
        case measure => simp [intOf]; omega
      · obtain rfl : k = n := by omega
        have hx := HN.out
        rw [List.take_of_length_le (by omega), Nat.sub_self, List.replicate_zero, List.append_nil] at ho
        clear hx
        go_wp2
        go_ret
        exact ⟨_, rfl, ho, hb.out⟩
end Go.Proofs.Ytncmeocjiinmfal
