/- CONTRACTS: stores with trees: spec.l8Draw: whatever the code, a store of small texts and a few roots. -/
import Derived.Test.YtdiammehnakchacGreatDrawsB
import Derived.Test.YtdiammehnakchacGreatDrawsG
import Derived.Test.YtdiammehnakchacGreatTreeG
import Derived.Test.YtdiammehnakchacGreatQue
namespace Go.Proofs.YtdiammehnakchacGreat
open Go.RowKit
set_option linter.unusedVariables false
theorem above_31 : ∀ (n : Nat) (xs : List ByteArray) {s : ByteArray}, s ∈ (above n xs).1 → s.size ≤ 31
  | 0, xs, s, h => by cases h
  | n + 1, xs, s, h => by
    unfold above at h
    split at h
    · cases h
    · rcases List.mem_append.1 h with h | h
      · unfold upT at h
        obtain ⟨d, _, rfl⟩ := List.mem_map.1 h
        exact brT_31
      · exact above_31 n _ h
theorem tree_small {xs : List ByteArray} (hs : ∀ s ∈ xs, s.size ≤ 3000) {s : ByteArray} (h : s ∈ (grownT xs).1) : s.size ≤ 3001 := by
  unfold grownT at h
  split at h
  · rcases List.mem_append.1 h with h | h
    · obtain ⟨c, hc, rfl⟩ := List.mem_map.1 h
      have h1 := hs c hc
      have h2 : (leafT c).size ≤ c.size + 1 := by
        unfold leafT leafL
        rw [asB_size, List.length_cons, byts_len]
        omega
      omega
    · have := above_31 _ _ h
      omega
  · cases h
theorem tree_len (xs : List ByteArray) : (grownT xs).1.length ≤ 192 := by
  unfold grownT
  split
  · rename_i k
    have h2 := above_len 5 (xs.map leafT)
    rw [List.length_append]
    rw [List.length_map] at h2 ⊢
    omega
  · exact Nat.zero_le _
theorem above_in : ∀ (n : Nat) (xs : List ByteArray), 0 ≤ (above n xs).2 ∧ (above n xs).2 ≤ 2147483646
  | 0, xs => ⟨Int.le_refl 0, (by decide : (0 : Int) ≤ 2147483646)⟩
  | n + 1, xs => by
    unfold above
    split
    · have := digest_in (xs.getD 0 ByteArray.empty)
      exact ⟨by omega, this.2⟩
    · exact above_in n _
theorem root_in (xs : List ByteArray) : 0 ≤ (grownT xs).2 ∧ (grownT xs).2 ≤ 2147483646 := by
  unfold grownT
  split
  · exact above_in 5 _
  · exact ⟨Int.le_refl 0, (by decide : (0 : Int) ≤ 2147483646)⟩
/-- small roots -/
def Rt (R : List Int) : Prop := ∀ d ∈ R, 1 ≤ d ∧ d ≤ 2147483646
theorem rt_snoc {R : List Int} {d : Int} (h : Rt R) (hd : 1 ≤ d ∧ d ≤ 2147483646) : Rt (R ++ [d]) := fun x hx => by
  rcases List.mem_append.1 hx with h1 | h1
  · exact h x h1
  · rw [List.mem_singleton.1 h1]; exact hd
/-- what l8Draw draws: a row of few small texts with their numbers, and a few roots -/
def Drawn8 (cb : Nat) (v : Value) (bs : List Int) (w : World) (e : Ending) (w' : World) : Prop := ∃ (u ur : Value) (l : List Bl) (R : List Int), e = .returned (.tuple #[u, ur]) ∧ l.length ≤ 600 ∧ Sm l 3001 ∧ R.length ≤ 5 ∧ Rt R ∧ w'.ownsRow w.heap.size 62 2 u l.length (blC l) ∧ w'.ownsRow w.heap.size 2 1 ur R.length (cellsInt64S R) ∧ St w' cb v bs ∧ w.grownBy w' (some cb)
theorem drop_sub8 {b : List Bl} {g : List Int} {p : Bl} (h : p ∈ dropT b g) : p ∈ b := by
  unfold dropT at h
  split at h
  · exact (List.mem_filter.1 h).1
  · cases h
theorem drop_len8 (b : List Bl) (g : List Int) : (dropT b g).length ≤ b.length := by
  unfold dropT
  split
  · exact List.length_filter_le _ _
  · exact Nat.zero_le _
theorem nei_size : (⟨#[110, 101, 105, 116, 104, 101, 114]⟩ : ByteArray).size = 7 := rfl
set_option maxHeartbeats 4000000 in
set_option maxRecDepth 100000 in
theorem l8Draw_any (cb : Nat) (v : Value) (bs : List Int) (w : World) (hst : St w cb v bs) (hl : bs.length ≤ 4096) (hz : ∀ j, 0 ≤ bs.getD j 0 ∧ bs.getD j 0 ≤ 255) :
    Calls Tryz.prog 26 #[.pointer (some ⟨cb, 0, none⟩)] w (Drawn8 cb v bs w) := by
  have hcb := st_lt hst
  have HZ := Lib.hid hz
  have hs1 := World.size_alloc w (.cells #[] 62)
  have hb1 := (Below.refl w.heap.size w).alloc (Nat.le_refl _) (.cells #[] 62)
  have hb2 := hb1.alloc hb1.size (.cells #[] 2)
  have ho0 : ((w.alloc (.cells #[] 62)).alloc (.cells #[] 2)).ownsRow w.heap.size 62 2 (.slice (some ⟨w.heap.size, 0, none⟩) 0 0) ([] : List Bl).length (blC []) := World.ownsRow.alloc (World.ownsRow_lit (base := w.heap.size) (e := 62) (size := 2) w #[] 0 (Nat.le_refl _) (Nat.zero_le _) rfl) _
  have hq0 : ((w.alloc (.cells #[] 62)).alloc (.cells #[] 2)).ownsRow w.heap.size 2 1 (.slice (some ⟨w.heap.size + 1, 0, none⟩) 0 0) ([] : List Int).length (cellsInt64S []) := by
    have h := World.ownsRow_lit (base := w.heap.size) (e := 2) (size := 1) (w.alloc (.cells #[] 62)) #[] 0 (by omega) (Nat.zero_le _) rfl
    rw [hs1] at h
    exact h
  have hst0 := st_below hst (hb2.mono (by omega))
  have hg0 : w.grownBy ((w.alloc (.cells #[] 62)).alloc (.cells #[] 2)) (some cb) := grown_trans (World.grownBy_alloc w _ _) (World.grownBy_alloc _ _ _)
  clear hst hz hb1 hb2
  go_enter Tryz.func26, Tryz.ntmps26
  go_wp2_with fail
  refine (below_any cb v bs 4 _ hst0 hl HZ.out (by omega)).mono ?_
  rintro e w2 ⟨n, rfl, hn0, hn1, _, hst2, hg2⟩
  have hn2 := hn1 (by omega)
  have ho2 := owns_far ho0 hg2 hcb
  have hq2 := owns_far hq0 hg2 hcb
  have hgr2 := grown_trans hg0 hg2
  have HST2 := Lib.hid hst2
  have HSM0 : Hid (Sm [] 3001) := fun p hp => absurd hp List.not_mem_nil
  have HRT0 : Hid (Rt []) := fun p hp => absurd hp List.not_mem_nil
  clear ho0 hq0 hg0 hg2 hst0 hst2 hn1 hs1
  go_wp2
  go_loopw [4, 5, 6] (fun vl vr q wr => ∃ (m : Int) (L : List Bl) (R : List Int), q = .int .i64 m ∧ 0 ≤ m ∧ (L.length : Int) + 192 * m ≤ 576 ∧ (R.length : Int) + m ≤ 3 ∧ Hid (Sm L 3001) ∧ Hid (Rt R) ∧ wr.ownsRow w.heap.size 62 2 vl L.length (blC L) ∧ wr.ownsRow w.heap.size 2 1 vr R.length (cellsInt64S R) ∧ Hid (St wr cb v bs) ∧ w.grownBy wr (some cb)) (fun _ _ q _ => (intOf q).toNat)
  case atStart => exact ⟨n, [], [], rfl, hn0, by simp; omega, by simp; omega, HSM0, HRT0, ho2, hq2, HST2, hgr2⟩
  case round =>
    rename World => wr
    clear ho2 hq2 HST2 hgr2 HSM0 HRT0
    obtain ⟨m, L, R, rfl, hm0, hm1, hm2, hsm, hrt, ho, hq, hst, hgr⟩ := hrel
    by_cases hlt : 0 < m
    · go_wp2_with fail
      refine (drawChunks8_any cb v bs _ hst.out hl HZ.out).mono ?_
      rintro e w4 ⟨vx, xs, rfl, hxl, hxs, hox, hst4, hg4⟩
      have ho4 := owns_far ho hg4 hcb
      have hq4 := owns_far hq hg4 hcb
      have hgr4 := grown_trans hgr hg4
      have hcall := specGrown_any vx xs w4 (rd_owns hox) (by omega) (fun s h => by have := hxs s h; omega)
      have HTS : Hid (∀ s ∈ (grownT xs).1, s.size ≤ 3001) := fun s h => tree_small hxs h
      have hgl := tree_len xs
      have hrin := root_in xs
      obtain ⟨G, hG⟩ : ∃ G, G = (grownT xs).1 := ⟨_, rfl⟩
      obtain ⟨r, hr⟩ : ∃ r, r = (grownT xs).2 := ⟨_, rfl⟩
      rw [← hG] at hcall HTS hgl
      rw [← hr] at hcall hrin
      obtain ⟨ax, cx, hvx⟩ := owns_slice hox
      subst hvx
      have HST4 := Lib.hid hst4
      clear hst ho hq hgr hg4 hG hr hox hst4
      go_wp2_with fail
      refine hcall.mono ?_
      rintro e w5 ⟨vg, rfl, hog, hb5⟩
      have ho5 := owns_below ho4 hb5
      have hq5 := owns_below hq4 hb5
      have hst5 := Lib.hid (st_below HST4.out (hb5.mono (st_lt HST4.out)))
      have hgr5 := gr_below hgr4 hb5
      have hs5 := hgr5.size
      obtain ⟨ag, cg, hvg⟩ := owns_slice hog
      subst hvg
      have HC : Hid (∀ j, j < G.length → ∃ g, ag = some ⟨g, 0, none⟩ ∧ g < w5.heap.size ∧ w5.cell? ⟨g, j, none⟩ = some (.string (G.getD j ByteArray.empty)) ∧ (G.getD j ByteArray.empty).size ≤ 3001) := fun j hj => by
        obtain ⟨g, c, hg, hk⟩ := owns_head hog (by omega)
        simp only [Value.slice.injEq] at hg
        have h2 := hog
        rw [hg.1] at h2 hk
        refine ⟨g, hg.1, (h2.lt g hk).2, (h2.cellAt j (by omega)).trans (strs_get G j hj), ?_⟩
        have e : G.getD j ByteArray.empty = G[j] := by simp [List.getD, hj]
        rw [e]
        exact HTS.out _ (List.getElem_mem hj)
      obtain ⟨ng, hng⟩ : ∃ ng, ng = G.length := ⟨_, rfl⟩
      rw [← hng] at HC hgl
      have hbb : Below w5.heap.size w5 w5 := Below.refl _ _
      clear hcall ho4 hq4 HST4 hgr4 hb5 hog HTS
      rw [← hng]
      go_wp2
      go_loopw [4, 9] (fun vl i ws => ∃ (k : Nat) (K : List Bl), i = .int .i64 k ∧ k ≤ ng ∧ K.length ≤ L.length + k ∧ Hid (Sm K 3001) ∧ ws.ownsRow w.heap.size 62 2 vl K.length (blC K) ∧ Below w5.heap.size w5 ws) (fun _ i _ => ng - (intOf i).toNat)
      case atStart => exact ⟨0, L, rfl, Nat.zero_le _, Nat.le_refl _, hsm, ho5, hbb⟩
      case round =>
        rename World => ws
        clear hbb ho5
        obtain ⟨k, K, rfl, hk, hkl, hsk, hok, hbk⟩ := hrel
        by_cases hltk : k < ng
        · obtain ⟨g, rfl, hgw, hcell, hcz⟩ := HC.out k hltk
          have c0 := (hbk.cell (p := ⟨g, k, none⟩) hgw).trans hcell
          obtain ⟨x, hx⟩ : ∃ x, x = G.getD k ByteArray.empty := ⟨_, rfl⟩
          rw [← hx] at c0 hcz
          have hsmall := Lib.hid (put_small (B := 3001) hsk.out hcz)
          have hplen := putT_len K x
          have hpc := specPut_any _ K x ws (rdB_owns hok) (by omega) (fun p hp => by have := hsk.out p hp; omega) (by omega)
          obtain ⟨Z, hZ⟩ : ∃ Z, Z = putT K x := ⟨_, rfl⟩
          rw [← hZ] at hsmall hplen hpc
          obtain ⟨Z1, Z2, Z3⟩ := Z
          simp only at hsmall hplen hpc
          obtain ⟨au, cu, hvu⟩ := owns_slice2 hok
          subst hvu
          have hkI : (k : Int) < (ng : Int) := by omega
          have hss := hbk.size
          clear hx hZ hcell
          go_wp2_with fail
          refine hpc.mono ?_
          rintro e w6 ⟨v6, rfl, ho6, hb6⟩
          have ho7 := owns_base ho6 (by omega : w.heap.size ≤ ws.heap.size)
          have hbk6 := hbk.trans (hb6.mono hbk.size)
          obtain ⟨a6, c6, hv6⟩ := owns_slice2 ho6
          subst hv6
          clear hpc ho6 hb6 hok hbk
          go_wp2
          go_roundw
          case rel => exact ⟨k + 1, Z1, by go_num, by omega, by omega, hsmall, ho7, hbk6⟩
          case measure => simp [intOf]; omega
        · have hq6 := owns_below hq5 hbk
          have hst6 := Lib.hid (st_below hst5.out (hbk.mono (st_lt hst5.out)))
          have hgr6 := gr_below hgr5 hbk
          clear HC hst5 hgr5 hbk hq5
          by_cases hr0 : 0 < r
          · have HRT2 := Lib.hid (rt_snoc hrt.out (d := r) ⟨by omega, hrin.2⟩)
            have hlit : (ws.alloc (.cells #[.int .i64 r] 2)).ownsRow ws.heap.size 2 1 (.slice (some ⟨ws.heap.size, 0, none⟩) 1 1) [r].length (cellsInt64S [r]) := World.ownsRow_lit (base := ws.heap.size) (e := 2) (size := 1) ws #[.int .i64 r] 1 (Nat.le_refl _) (by unfold maxLen; omega) rfl
            have hq7 := hq6.alloc (.cells #[.int .i64 r] 2)
            have hok7 := hok.alloc (.cells #[.int .i64 r] 2)
            have hst7 := Lib.hid (st_below hst6.out ((Below.refl (cb + 1) ws).alloc (st_lt hst6.out) (.cells #[.int .i64 r] 2)))
            have hgr7 : w.grownBy (ws.alloc (.cells #[.int .i64 r] 2)) (some cb) := grown_trans hgr6 (World.grownBy_alloc ws _ _)
            clear hq6 hok hst6 hgr6
            go_wp2_with (at_builtin; refine own_step rfl _ _ rfl w.heap.size _ (.slice (some ⟨ws.heap.size, 0, none⟩) 1 1) R [r] rfl rfl hq7 (rd_owns hlit) (by simp; omega) (by have := hgr7.size; omega) ?_)
            intro v8 w8 hq8 hg8 hi8
            have hok8 := owns_apart hok7 hq7 (by decide) hg8
            have hst8 := Lib.hid (st_below hst7.out (below_of_own8 hg8 (by have := st_lt hst7.out; omega) (fun g h => (hq7.lt g h).1) hcb))
            have hgr8 := gr_own hgr7 hg8 (fun g h => (hq7.lt g h).1)
            have HQ8 : Hid (w8.ownsRow w.heap.size 2 1 v8 (R ++ [r]).length (cellsInt64S (R ++ [r]))) := by
              show World.ownsRow _ _ _ _ _ _ _
              simpa using hq8
            clear hq7 hok7 hst7 hgr7 hg8 hi8 hlit hq8
            go_wp2
            go_roundw
            case rel => exact ⟨m - 1, K, R ++ [r], by go_num, by omega, by omega, by simp; omega, hsk, HRT2, hok8, HQ8.out, hst8, hgr8⟩
            case measure => simp [intOf]; omega
          · go_wp2
            go_roundw
            case rel => exact ⟨m - 1, K, R, by go_num, by omega, by omega, by omega, hsk, hrt, hok, hq6, hst6, hgr6⟩
            case measure => simp [intOf]; omega
    · go_wp2_with fail
      refine (once_any cb v bs 5 _ hst.out hl HZ.out (by omega)).mono ?_
      rintro e w4 ⟨o, rfl, hst4, hg4⟩
      have ho4 := owns_far ho hg4 hcb
      have hq4 := owns_far hq hg4 hcb
      have hgr4 := grown_trans hgr hg4
      have hs4 := hgr4.size
      obtain ⟨au, cu, hvu⟩ := owns_slice2 ho4
      subst hvu
      have hLl : L.length ≤ 576 := by omega
      have hRl : R.length ≤ 3 := by omega
      have hst6 := Lib.hid hst4
      clear hst ho hq hgr hg4 hm0 hm1 hm2 hlt hst4
      cases o with
      | false =>
        have ho6 := ho4
        have hq6 := hq4
        have hgr6 := hgr4
        obtain ⟨M, hM⟩ : ∃ M, M = L := ⟨_, rfl⟩
        have hsM := hsm
        clear ho4 hq4 hgr4
        rw [← hM] at hsM ho6 hLl
        rw [← hM]
        clear hM
        go_wp2_with fail
        refine (once_any cb v bs 8 _ hst6.out hl HZ.out (by omega)).mono ?_
        rintro e w7 ⟨o2, rfl, hst7, hg7⟩
        have ho7 := owns_far ho6 hg7 hcb
        have hq7 := owns_far hq6 hg7 hcb
        have hgr7 := grown_trans hgr6 hg7
        have hs7 := hgr7.size
        clear hst6 ho6 hq6 hgr6 hg7
        cases o2 with
        | false =>
          go_wp2
          go_ret2
          exact ⟨_, _, M, R, rfl, by omega, hsM.out, by omega, hrt.out, ho7, hq7, hst7, hgr7⟩
        | true =>
          obtain ⟨nt, hnt⟩ : ∃ nt, nt = (⟨#[110, 101, 105, 116, 104, 101, 114]⟩ : ByteArray) := ⟨_, rfl⟩
          have hnz : nt.size = 7 := by rw [hnt]; exact nei_size
          have HNT := Lib.hid hnt
          clear hnt
          have hpc := specPut_any _ M nt w7 (rdB_owns ho7) (by omega) (fun p hp => by have := hsM.out p hp; omega) (by omega)
          have hsmall := Lib.hid (put_small (B := 3001) hsM.out (show nt.size ≤ 3001 by omega))
          have hplen := putT_len M nt
          obtain ⟨Z, hZ⟩ : ∃ Z, Z = putT M nt := ⟨_, rfl⟩
          rw [← hZ] at hsmall hplen hpc
          obtain ⟨Z1, Z2, Z3⟩ := Z
          simp only at hsmall hplen hpc
          have hdg := fun W => specDigest_any nt W (by omega)
          have hdi := digest_in nt
          obtain ⟨D, hD⟩ : ∃ D, D = digest nt := ⟨_, rfl⟩
          rw [← hD] at hdi
          have HD := Lib.hid hD
          clear hZ hD
          go_wp2_with fail
          rw [← HNT.out]
          refine hpc.mono ?_
          rintro e w8 ⟨v8, rfl, ho8, hb8⟩
          have ho9 := owns_base ho8 hs7
          have hq9 := owns_below hq7 hb8
          have hst9 := st_below hst7 (hb8.mono (st_lt hst7))
          have hgr9 := gr_below hgr7 hb8
          clear hpc ho8 hb8 ho7 hq7 hst7 hgr7
          go_wp2_with fail
          rw [← HNT.out]
          refine (hdg _).mono ?_
          rintro e w9 ⟨rfl, rfl⟩
          rw [← HD.out]
          have HRT2 := Lib.hid (rt_snoc hrt.out (d := D) hdi)
          have hlit : (w9.alloc (.cells #[.int .i64 D] 2)).ownsRow w9.heap.size 2 1 (.slice (some ⟨w9.heap.size, 0, none⟩) 1 1) [D].length (cellsInt64S [D]) := World.ownsRow_lit (base := w9.heap.size) (e := 2) (size := 1) w9 #[.int .i64 D] 1 (Nat.le_refl _) (by unfold maxLen; omega) rfl
          have hqA := hq9.alloc (.cells #[.int .i64 D] 2)
          have hoA := ho9.alloc (.cells #[.int .i64 D] 2)
          have hstA := Lib.hid (st_below hst9 ((Below.refl (cb + 1) w9).alloc (st_lt hst9) (.cells #[.int .i64 D] 2)))
          have hgrA : w.grownBy (w9.alloc (.cells #[.int .i64 D] 2)) (some cb) := grown_trans hgr9 (World.grownBy_alloc w9 _ _)
          clear hq9 ho9 hst9 hgr9 hdg
          go_wp2_with (at_builtin; refine own_step rfl _ _ rfl w.heap.size _ (.slice (some ⟨w9.heap.size, 0, none⟩) 1 1) R [D] rfl rfl hqA (rd_owns hlit) (by simp; omega) (by have := hgrA.size; omega) ?_)
          intro vB wB hqB hgB hiB
          have hoB := owns_apart hoA hqA (by decide) hgB
          have hstB := Lib.hid (st_below hstA.out (below_of_own8 hgB (by have := st_lt hstA.out; omega) (fun g h => (hqA.lt g h).1) hcb))
          have hgrB := gr_own hgrA hgB (fun g h => (hqA.lt g h).1)
          have HQB : Hid (wB.ownsRow w.heap.size 2 1 vB (R ++ [D]).length (cellsInt64S (R ++ [D]))) := by
            show World.ownsRow _ _ _ _ _ _ _
            simpa using hqB
          clear hqA hoA hstA hgrA hgB hiB hlit hqB
          go_wp2
          go_ret2
          exact ⟨_, _, Z1, R ++ [D], rfl, by omega, hsmall.out, by simp; omega, HRT2.out, hoB, HQB.out, hstB.out, hgrB⟩
      | true =>
        by_cases hp : 0 < L.length
        · have hpI : (0 : Int) < (L.length : Int) := by omega
          go_wp2_with fail
          refine (below_any cb v bs (L.length : Int) _ hst6.out hl HZ.out (by omega)).mono ?_
          rintro e w5 ⟨q, rfl, hq0, hq1, _, hst5, hg5⟩
          obtain ⟨j, rfl⟩ : ∃ j : Nat, q = j := ⟨q.toNat, by omega⟩
          have hjl : j < L.length := by have := hq1 hpI; omega
          have ho5 := owns_far ho4 hg5 hcb
          have hq5 := owns_far hq4 hg5 hcb
          have hgr5 := grown_trans hgr4 hg5
          obtain ⟨g, cg, hvg, hgb, hgw⟩ := owns_head2 ho5 hp
          simp only [Value.slice.injEq] at hvg
          obtain ⟨rfl, _, rfl⟩ := hvg
          obtain ⟨c0, _⟩ := own_cells ho5 rfl hjl
          obtain ⟨D0, hD0⟩ : ∃ D0, D0 = (L.getD j bl0).1 := ⟨_, rfl⟩
          rw [← hD0] at c0
          have hlit : (w5.alloc (.cells #[.int .i64 D0] 2)).ownsRow w5.heap.size 2 1 (.slice (some ⟨w5.heap.size, 0, none⟩) 1 1) [D0].length (cellsInt64S [D0]) := World.ownsRow_lit (base := w5.heap.size) (e := 2) (size := 1) w5 #[.int .i64 D0] 1 (Nat.le_refl _) (by unfold maxLen; omega) rfl
          have hoL := ho5.alloc (.cells #[.int .i64 D0] 2)
          have hqL := hq5.alloc (.cells #[.int .i64 D0] 2)
          have hstL := Lib.hid (st_below hst5 ((Below.refl (cb + 1) w5).alloc (st_lt hst5) (.cells #[.int .i64 D0] 2)))
          have hgrL : w.grownBy (w5.alloc (.cells #[.int .i64 D0] 2)) (some cb) := grown_trans hgr5 (World.grownBy_alloc w5 _ _)
          have hsL := hgrL.size
          have hdc := specDrop_any _ _ L [D0] _ (rdB_owns hoL) (rd_owns hlit) (by omega) (fun p hp => by have := hsm.out p hp; omega) (by simp)
          have hM1 := drop_len8 L [D0]
          have hsM : Hid (Sm (dropT L [D0]) 3001) := fun p hp => hsm.out p (drop_sub8 hp)
          obtain ⟨M, hM⟩ : ∃ M, M = dropT L [D0] := ⟨_, rfl⟩
          rw [← hM] at hdc hM1 hsM
          have hjI : ¬ (j : Int) < 0 := by omega
          have hjn : (j : Int) < (L.length : Int) := by omega
          clear hD0 hM ho5 hq5 hst5 hgr5 hg5 ho4 hq4 hgr4 hst6 hq1 hlit
          go_wp2_with fail
          refine hdc.mono ?_
          rintro e w6 ⟨v6, rfl, hoM, hb6⟩
          have ho6 := owns_base hoM hsL
          have hq6 := owns_below hqL hb6
          have hst6 := Lib.hid (st_below hstL.out (hb6.mono (st_lt hstL.out)))
          have hgr6 := gr_below hgrL hb6
          obtain ⟨a6, c6, hv6⟩ := owns_slice2 ho6
          subst hv6
          clear hdc hoM hb6 hoL hqL hstL hgrL c0
          go_wp2_with fail
          refine (once_any cb v bs 8 _ hst6.out hl HZ.out (by omega)).mono ?_
          rintro e w7 ⟨o2, rfl, hst7, hg7⟩
          have ho7 := owns_far ho6 hg7 hcb
          have hq7 := owns_far hq6 hg7 hcb
          have hgr7 := grown_trans hgr6 hg7
          have hs7 := hgr7.size
          clear hst6 ho6 hq6 hgr6 hg7
          cases o2 with
          | false =>
            go_wp2
            go_ret2
            exact ⟨_, _, M, R, rfl, by omega, hsM.out, by omega, hrt.out, ho7, hq7, hst7, hgr7⟩
          | true =>
            obtain ⟨nt, hnt⟩ : ∃ nt, nt = (⟨#[110, 101, 105, 116, 104, 101, 114]⟩ : ByteArray) := ⟨_, rfl⟩
            have hnz : nt.size = 7 := by rw [hnt]; exact nei_size
            have HNT := Lib.hid hnt
            clear hnt
            have hpc := specPut_any _ M nt w7 (rdB_owns ho7) (by omega) (fun p hp => by have := hsM.out p hp; omega) (by omega)
            have hsmall := Lib.hid (put_small (B := 3001) hsM.out (show nt.size ≤ 3001 by omega))
            have hplen := putT_len M nt
            obtain ⟨Z, hZ⟩ : ∃ Z, Z = putT M nt := ⟨_, rfl⟩
            rw [← hZ] at hsmall hplen hpc
            obtain ⟨Z1, Z2, Z3⟩ := Z
            simp only at hsmall hplen hpc
            have hdg := fun W => specDigest_any nt W (by omega)
            have hdi := digest_in nt
            obtain ⟨D, hD⟩ : ∃ D, D = digest nt := ⟨_, rfl⟩
            rw [← hD] at hdi
            have HD := Lib.hid hD
            clear hZ hD
            go_wp2_with fail
            rw [← HNT.out]
            refine hpc.mono ?_
            rintro e w8 ⟨v8, rfl, ho8, hb8⟩
            have ho9 := owns_base ho8 hs7
            have hq9 := owns_below hq7 hb8
            have hst9 := st_below hst7 (hb8.mono (st_lt hst7))
            have hgr9 := gr_below hgr7 hb8
            clear hpc ho8 hb8 ho7 hq7 hst7 hgr7
            go_wp2_with fail
            rw [← HNT.out]
            refine (hdg _).mono ?_
            rintro e w9 ⟨rfl, rfl⟩
            rw [← HD.out]
            have HRT2 := Lib.hid (rt_snoc hrt.out (d := D) hdi)
            have hlit : (w9.alloc (.cells #[.int .i64 D] 2)).ownsRow w9.heap.size 2 1 (.slice (some ⟨w9.heap.size, 0, none⟩) 1 1) [D].length (cellsInt64S [D]) := World.ownsRow_lit (base := w9.heap.size) (e := 2) (size := 1) w9 #[.int .i64 D] 1 (Nat.le_refl _) (by unfold maxLen; omega) rfl
            have hqA := hq9.alloc (.cells #[.int .i64 D] 2)
            have hoA := ho9.alloc (.cells #[.int .i64 D] 2)
            have hstA := Lib.hid (st_below hst9 ((Below.refl (cb + 1) w9).alloc (st_lt hst9) (.cells #[.int .i64 D] 2)))
            have hgrA : w.grownBy (w9.alloc (.cells #[.int .i64 D] 2)) (some cb) := grown_trans hgr9 (World.grownBy_alloc w9 _ _)
            clear hq9 ho9 hst9 hgr9 hdg
            go_wp2_with (at_builtin; refine own_step rfl _ _ rfl w.heap.size _ (.slice (some ⟨w9.heap.size, 0, none⟩) 1 1) R [D] rfl rfl hqA (rd_owns hlit) (by simp; omega) (by have := hgrA.size; omega) ?_)
            intro vB wB hqB hgB hiB
            have hoB := owns_apart hoA hqA (by decide) hgB
            have hstB := Lib.hid (st_below hstA.out (below_of_own8 hgB (by have := st_lt hstA.out; omega) (fun g h => (hqA.lt g h).1) hcb))
            have hgrB := gr_own hgrA hgB (fun g h => (hqA.lt g h).1)
            have HQB : Hid (wB.ownsRow w.heap.size 2 1 vB (R ++ [D]).length (cellsInt64S (R ++ [D]))) := by
              show World.ownsRow _ _ _ _ _ _ _
              simpa using hqB
            clear hqA hoA hstA hgrA hgB hiB hlit hqB
            go_wp2
            go_ret2
            exact ⟨_, _, Z1, R ++ [D], rfl, by omega, hsmall.out, by simp; omega, HRT2.out, hoB, HQB.out, hstB.out, hgrB⟩
        · have hpI : ¬ (0 : Int) < (L.length : Int) := by omega
          have ho6 := ho4
          have hq6 := hq4
          have hgr6 := hgr4
          obtain ⟨M, hM⟩ : ∃ M, M = L := ⟨_, rfl⟩
          have hsM := hsm
          rw [← hM] at hsM ho6 hLl hpI
          clear ho4 hq4 hgr4 hp
          rw [← hM]
          clear hM
          go_wp2_with fail
          refine (once_any cb v bs 8 _ hst6.out hl HZ.out (by omega)).mono ?_
          rintro e w7 ⟨o2, rfl, hst7, hg7⟩
          have ho7 := owns_far ho6 hg7 hcb
          have hq7 := owns_far hq6 hg7 hcb
          have hgr7 := grown_trans hgr6 hg7
          have hs7 := hgr7.size
          clear hst6 ho6 hq6 hgr6 hg7
          cases o2 with
          | false =>
            go_wp2
            go_ret2
            exact ⟨_, _, M, R, rfl, by omega, hsM.out, by omega, hrt.out, ho7, hq7, hst7, hgr7⟩
          | true =>
            obtain ⟨nt, hnt⟩ : ∃ nt, nt = (⟨#[110, 101, 105, 116, 104, 101, 114]⟩ : ByteArray) := ⟨_, rfl⟩
            have hnz : nt.size = 7 := by rw [hnt]; exact nei_size
            have HNT := Lib.hid hnt
            clear hnt
            have hpc := specPut_any _ M nt w7 (rdB_owns ho7) (by omega) (fun p hp => by have := hsM.out p hp; omega) (by omega)
            have hsmall := Lib.hid (put_small (B := 3001) hsM.out (show nt.size ≤ 3001 by omega))
            have hplen := putT_len M nt
            obtain ⟨Z, hZ⟩ : ∃ Z, Z = putT M nt := ⟨_, rfl⟩
            rw [← hZ] at hsmall hplen hpc
            obtain ⟨Z1, Z2, Z3⟩ := Z
            simp only at hsmall hplen hpc
            have hdg := fun W => specDigest_any nt W (by omega)
            have hdi := digest_in nt
            obtain ⟨D, hD⟩ : ∃ D, D = digest nt := ⟨_, rfl⟩
            rw [← hD] at hdi
            have HD := Lib.hid hD
            clear hZ hD
            go_wp2_with fail
            rw [← HNT.out]
            refine hpc.mono ?_
            rintro e w8 ⟨v8, rfl, ho8, hb8⟩
            have ho9 := owns_base ho8 hs7
            have hq9 := owns_below hq7 hb8
            have hst9 := st_below hst7 (hb8.mono (st_lt hst7))
            have hgr9 := gr_below hgr7 hb8
            clear hpc ho8 hb8 ho7 hq7 hst7 hgr7
            go_wp2_with fail
            rw [← HNT.out]
            refine (hdg _).mono ?_
            rintro e w9 ⟨rfl, rfl⟩
            rw [← HD.out]
            have HRT2 := Lib.hid (rt_snoc hrt.out (d := D) hdi)
            have hlit : (w9.alloc (.cells #[.int .i64 D] 2)).ownsRow w9.heap.size 2 1 (.slice (some ⟨w9.heap.size, 0, none⟩) 1 1) [D].length (cellsInt64S [D]) := World.ownsRow_lit (base := w9.heap.size) (e := 2) (size := 1) w9 #[.int .i64 D] 1 (Nat.le_refl _) (by unfold maxLen; omega) rfl
            have hqA := hq9.alloc (.cells #[.int .i64 D] 2)
            have hoA := ho9.alloc (.cells #[.int .i64 D] 2)
            have hstA := Lib.hid (st_below hst9 ((Below.refl (cb + 1) w9).alloc (st_lt hst9) (.cells #[.int .i64 D] 2)))
            have hgrA : w.grownBy (w9.alloc (.cells #[.int .i64 D] 2)) (some cb) := grown_trans hgr9 (World.grownBy_alloc w9 _ _)
            clear hq9 ho9 hst9 hgr9 hdg
            go_wp2_with (at_builtin; refine own_step rfl _ _ rfl w.heap.size _ (.slice (some ⟨w9.heap.size, 0, none⟩) 1 1) R [D] rfl rfl hqA (rd_owns hlit) (by simp; omega) (by have := hgrA.size; omega) ?_)
            intro vB wB hqB hgB hiB
            have hoB := owns_apart hoA hqA (by decide) hgB
            have hstB := Lib.hid (st_below hstA.out (below_of_own8 hgB (by have := st_lt hstA.out; omega) (fun g h => (hqA.lt g h).1) hcb))
            have hgrB := gr_own hgrA hgB (fun g h => (hqA.lt g h).1)
            have HQB : Hid (wB.ownsRow w.heap.size 2 1 vB (R ++ [D]).length (cellsInt64S (R ++ [D]))) := by
              show World.ownsRow _ _ _ _ _ _ _
              simpa using hqB
            clear hqA hoA hstA hgrA hgB hiB hlit hqB
            go_wp2
            go_ret2
            exact ⟨_, _, Z1, R ++ [D], rfl, by omega, hsmall.out, by simp; omega, HRT2.out, hoB, HQB.out, hstB.out, hgrB⟩
end Go.Proofs.YtdiammehnakchacGreat
