/- THE SPECIFICATION's DRAWS of chapter 11: l11Draw, DrawOwner, DrawOwners, DrawWithout. -/
import Derived.Test.YtjjaephhnlhnkacDoorDrawsQ
import Derived.Test.YtjjaephhnlhnkacDoorRngJ
import Derived.Test.YtjjaephhnlhnkacDoorRngW
namespace Go.Proofs.YtjjaephhnlhnkacDoor
open Go.RowKit
set_option linter.unusedVariables false
theorem newT_lenO (l : List Int) (dots : Int) : (newT l dots).1.length ≤ 256 := by
  unfold newT
  split
  · rename_i h
    have h1 := ringN_le dots.toNat l []
    have h2 := h.1.1.2
    have h3 : l.length * dots.toNat ≤ 16 * 8 := Nat.mul_le_mul h2 (by have := h.2.2; omega)
    simp only [List.length_nil] at h1
    show (ringN _ _ _).length ≤ 256
    omega
  · exact Nat.zero_le _
abbrev tabO : Array Value := #[.int .i64 (-1), .int .i64 15, .int .i64 16]
theorem tabO_get (j : Nat) (h : j < 3) : ∃ z : Int, tabO[j]? = some (.int .i64 z) := by
  rcases (show j = 0 ∨ j = 1 ∨ j = 2 by omega) with rfl | rfl | rfl <;> exact ⟨_, rfl⟩
set_option maxHeartbeats 2000000 in
set_option maxRecDepth 100000 in
theorem l11Draw_any (cb : Nat) (v : Value) (bs : List Int) (w : World) (hst : St w cb v bs) (hl : bs.length ≤ 4096) (hz : ∀ j, 0 ≤ bs.getD j 0 ∧ bs.getD j 0 ≤ 255) :
    Calls Tryd.prog 24 #[.pointer (some ⟨cb, 0, none⟩)] w fun e w' => ∃ (v' : Value) (l : List Dt), e = .returned v' ∧ l.length ≤ 256 ∧ OwnD w' w.heap.size v' l ∧ St w' cb v bs ∧ w.grownBy w' (some cb) := by
  have hcb := st_lt hst
  have HZ : Hid (∀ j, 0 ≤ bs.getD j 0 ∧ bs.getD j 0 ≤ 255) := hz
  clear hz
  go_enter Tryd.func24, Tryd.ntmps24
  go_wp2_with fail
  refine (drawNodes_any cb v bs w hst hl HZ.out).mono ?_
  rintro e w1 ⟨vn, xs, rfl, hxl, _, ho1, hst1, hg1⟩
  have hs1 := hg1.size
  clear hst
  go_wp2_with fail
  refine (below_any cb v bs 4 w1 hst1 hl HZ.out (by omega)).mono ?_
  rintro e w2 ⟨r, rfl, hr0, hr1, _, hst2, hg2⟩
  have hr2 := hr1 (by omega)
  have ho2 := owns_grown ho1 hg2 (fun k hk h => by cases hk; have := (ho1.lt _ h).1; omega)
  have hG2 := grown_trans hg1 hg2
  have hs2 := hg2.size
  have hnr := specNewRing_any vn xs (1 + r) w2 (rd_owns ho2) (by omega)
  have hlen := newT_lenO xs (1 + r)
  have hnr : Calls Tryd.prog 13 #[vn, .int .i64 (1 + r)] w2 fun e w' => ∃ u, e = .returned (.tuple #[u, .bool (newT xs (1 + r)).2]) ∧ OwnD w' w2.heap.size u (newT xs (1 + r)).1 ∧ Below w2.heap.size w2 w' := hnr
  generalize (newT xs (1 + r)).1 = R at hnr hlen
  generalize (newT xs (1 + r)).2 = fl at hnr
  obtain ⟨an, cn, hvn⟩ := owns_slice ho1
  subst hvn
  clear hst1 hg1 hg2 ho1 hr1
  go_wp2_with fail
  refine hnr.mono ?_
  rintro e w3 ⟨u, rfl, ho3, hb3⟩
  have hst3 := st_below hst2 (hb3.mono (by have := st_lt hst2; omega))
  have hG3 := grown_into hG2 (grown_of_below hb3) (fun j h => by cases h)
  have hs3 := hb3.size
  have hub : ∀ k, u.ownBlock = some k → w2.heap.size ≤ k := fun k h => (ho3.lt k h).1
  clear hnr hst2 hG2 ho2 hb3
  go_wp2_with fail
  refine (once_any cb v bs 14 w3 hst3 hl HZ.out (by omega)).mono ?_
  rintro e w4 ⟨b, rfl, hst4, hg4⟩
  have ho4 : OwnD w4 w2.heap.size u R := owns_grown ho3 hg4 (fun k hk h => by cases hk; have := hub _ h; omega)
  have hG4 := grown_trans hG3 hg4
  have hs4 := hg4.size
  obtain ⟨au, cu, hu⟩ := ownG_shape ho4
  clear hst3 hg4 hG3 ho3
  have hfin : Hid (∀ W, w4 = W → ∃ (v' : Value) (l : List Dt), u = v' ∧ l.length ≤ 256 ∧ OwnD W w.heap.size v' l ∧ St W cb v bs ∧ w.grownBy W (some cb)) := fun W h => by subst h; exact ⟨u, R, rfl, hlen, owns_base ho4 (by omega), hst4, hG4⟩
  by_cases hgo : b = true ∧ 0 < R.length
  rotate_left
  · obtain ⟨v', l, h1, h2, h3, h4, h5⟩ := hfin.out w4 rfl
    subst h1
    have H3 := Lib.hid h3
    have H4 := Lib.hid h4
    clear h3 h4 hfin hst4 ho4 hub
    cases b with
    | false =>
      subst hu
      go_wp2
      go_ret
      exact ⟨_, l, rfl, h2, H3.out, H4.out, h5⟩
    | true =>
      have h0 : R.length = 0 := by
        rcases Nat.eq_zero_or_pos R.length with h | h
        · exact h
        · exact absurd ⟨rfl, h⟩ hgo
      rw [h0] at hu
      subst hu
      go_wp2
      go_ret
      exact ⟨_, l, rfl, h2, H3.out, H4.out, h5⟩
  obtain ⟨rfl, hRp⟩ := hgo
  rcases ownG_cases dtW ho4 with ⟨h0, _⟩ | ⟨g, cap, cur, hug, hBg, hgs, _, _, _, _, _, _⟩
  · rw [h0] at hRp; exact absurd hRp (Nat.lt_irrefl _)
  have hau : au = some ⟨g, 0, none⟩ := by have h9 := hu.symm.trans hug; simp only [Value.slice.injEq] at h9; exact h9.1
  have hne : g ≠ cb := by omega
  obtain ⟨n, hn⟩ : ∃ n, n = R.length := ⟨_, rfl⟩
  have HN := Lib.hid hn
  rw [← hn] at hu hRp hlen
  have hRI : (0 : Int) < (n : Int) := by omega
  have hOW : Hid (w4.ownsRow w2.heap.size 51 2 u n (rowC dtf R)) := by show World.ownsRow _ _ _ _ _ _ _; rw [HN.out]; exact ho4
  have hub2 : u.ownBlock = some g := by rw [hug]; rfl
  clear hfin ho4 hn hug hub
  subst hau
  subst hu
  go_wp2_with fail
  refine (below_any cb v bs (n : Int) w4 hst4 hl HZ.out (by omega)).mono ?_
  rintro e w5 ⟨r5, rfl, hr50, hr51, _, hst5, hg5⟩
  have hr52 := hr51 (by omega)
  obtain ⟨i, rfl⟩ := Int.eq_ofNat_of_zero_le hr50
  have hiI : (i : Int) < (n : Int) := hr52
  have hin : i < n := by omega
  have ho5 := Lib.hid (owns_grown hOW.out hg5 (fun k hk h => by cases hk; exact hne (Option.some.inj h)))
  have hG5 := grown_trans hG4 hg5
  clear hst4 hg5 hG4 hOW hr51 hr52
  go_wp2_with fail
  refine (below_any cb v bs 2 w5 hst5 hl HZ.out (by omega)).mono ?_
  rintro e w6 ⟨r6, rfl, hr60, hr61, _, hst6, hg6⟩
  have hr62 := hr61 (by omega)
  have ho6 := Lib.hid (owns_grown ho5.out hg6 (fun k hk h => by cases hk; exact hne (Option.some.inj h)))
  have hG6 := grown_trans hG5 hg6
  clear hst5 hg6 hG5 ho5 hr61
  by_cases hz0 : r6 = 0
  · subst hz0
    go_wp2_with fail
    refine (fromQ_any cb v bs (-1) 65538 w6 hst6 hl HZ.out (by omega) (by omega) (by omega)).mono ?_
    rintro e w7 ⟨z, rfl, hz0, hz1, hst7, hg7⟩
    have ho7 := owns_grown ho6.out hg7 (fun k hk h => by cases hk; exact hne (Option.some.inj h))
    have hG7 := grown_trans hG6 hg7
    have hiR : i < R.length := by have := HN.out; omega
    have f0 := ho7.cellAt (i * 2) (by omega)
    have z0 := ho7.frozenAt (i * 2)
    obtain ⟨u0, hu0⟩ : ∃ u0, (rowC dtf R)[i * 2]? = some u0 := ⟨_, List.getElem?_eq_getElem (by rw [rowC_len dtW]; omega)⟩
    rw [hu0] at f0
    have hsto := ho7.stored (i * 2) (.int .i64 z)
    have hset := rowC_set dtW R i hiR 0 (.int .i64 z) (z, R[i].2) (by decide) rfl
    rw [Nat.add_zero] at hset
    rw [hset] at hsto
    have HO : Hid (OwnD (w7.setCell ⟨g, i * 2, none⟩ (.int .i64 z)) w2.heap.size (.slice (some ⟨g, 0, none⟩) n cu) (R.set i (z, R[i].2))) := by show World.ownsRow _ _ _ _ _ _ _; rw [List.length_set, ← HN.out]; exact hsto.1
    have hst8 : St (w7.setCell ⟨g, i * 2, none⟩ (.int .i64 z)) cb v bs := st_below hst7 ((Below.refl (cb + 1) w7).setCell (p := ⟨g, i * 2, none⟩) (by show cb + 1 ≤ g; omega) _)
    have HG8 := Lib.hid (grown_into hG7 hsto.2 (fun j h => by cases h; right; omega))
    have HST8 := Lib.hid hst8
    have hll : (R.set i (z, R[i].2)).length ≤ 256 := by rw [List.length_set, ← HN.out]; exact hlen
    generalize R.set i (z, R[i].2) = R2 at HO hll
    clear hst6 hg7 ho6 ho7 hG6 hG7 hsto hset hu0 hst7 hst8 hiR
    go_wp2
    go_ret
    exact ⟨_, R2, rfl, hll, owns_base HO.out (by omega), HST8.out, HG8.out⟩
  · have hz1 : r6 = 1 := by omega
    subst hz1
    have ha6 : Below (cb + 1) w6 (w6.alloc (.cells tabO 2)) := (Below.refl _ _).alloc (by have := st_lt hst6; omega) _
    have hst6a := st_below hst6 ha6
    have hsA : (w6.alloc (.cells tabO 2)).heap.size = w6.heap.size + 1 := by rw [World.size_alloc]
    have hG6a := grown_into hG6 (World.grownBy_alloc w6 (.cells tabO 2) none) (fun j h => by cases h)
    have ho6a := ho6.out.alloc (.cells tabO 2)
    have hbl := heap_alloc_new w6 (.cells tabO 2)
    have hcb6 := st_lt hst6
    clear hst6 ha6 hG6 ho6
    go_wp2_with fail
    refine (below_any cb v bs 3 _ hst6a hl HZ.out (by omega)).mono ?_
    rintro e w7 ⟨r7, rfl, hr70, hr71, _, hst7, hg7⟩
    have hr72 := hr71 (by omega)
    obtain ⟨j, rfl⟩ := Int.eq_ofNat_of_zero_le hr70
    obtain ⟨z, hzj⟩ := tabO_get j (by omega)
    have hbl7 := (hg7.block w6.heap.size (by omega) (fun h => by have := Option.some.inj h; omega)).trans hbl
    have cz : w7.cell? ⟨w6.heap.size, j, none⟩ = some (.int .i64 z) := (cell_of_row w7 w6.heap.size j _ _ (0, 0) hbl7).trans hzj
    have ho7 := owns_grown ho6a hg7 (fun k hk h => by cases hk; exact hne (Option.some.inj h))
    have hG7 := grown_trans hG6a hg7
    have hiR : i < R.length := by have := HN.out; omega
    have f0 := ho7.cellAt (i * 2 + 1) (by omega)
    have z0 := ho7.frozenAt (i * 2 + 1)
    obtain ⟨u0, hu0⟩ : ∃ u0, (rowC dtf R)[i * 2 + 1]? = some u0 := ⟨_, List.getElem?_eq_getElem (by rw [rowC_len dtW]; omega)⟩
    rw [hu0] at f0
    have hsto := ho7.stored (i * 2 + 1) (.int .i64 z)
    have hset := rowC_set dtW R i hiR 1 (.int .i64 z) (R[i].1, z) (by decide) rfl
    rw [hset] at hsto
    have HO : Hid (OwnD (w7.setCell ⟨g, i * 2 + 1, none⟩ (.int .i64 z)) w2.heap.size (.slice (some ⟨g, 0, none⟩) n cu) (R.set i (R[i].1, z))) := by show World.ownsRow _ _ _ _ _ _ _; rw [List.length_set, ← HN.out]; exact hsto.1
    have hst8 : St (w7.setCell ⟨g, i * 2 + 1, none⟩ (.int .i64 z)) cb v bs := st_below hst7 ((Below.refl (cb + 1) w7).setCell (p := ⟨g, i * 2 + 1, none⟩) (by show cb + 1 ≤ g; omega) _)
    have HG8 := Lib.hid (grown_into hG7 hsto.2 (fun j h => by cases h; right; omega))
    have HST8 := Lib.hid hst8
    have hll : (R.set i (R[i].1, z)).length ≤ 256 := by rw [List.length_set, ← HN.out]; exact hlen
    have hjI : (j : Int) < 3 := by omega
    generalize R.set i (R[i].1, z) = R2 at HO hll
    clear hst6a hg7 ho6a ho7 hG6a hG7 hsto hset hu0 hst7 hst8 hiR hbl hbl7 hzj hr71 hr72
    go_wp2
    go_ret
    exact ⟨_, R2, rfl, hll, owns_base HO.out (by omega), HST8.out, HG8.out⟩
set_option maxHeartbeats 1000000 in
theorem dDrawOwner_any (va : Value) (bs : List Int) (w : World) (ha : Rd w va (cellsByteS bs)) (hl : bs.length ≤ 4096) (hz : Bytes bs) :
    Calls Tryd.prog 5 #[va] w fun e w' => ∃ (v' : Value) (l : List Dt) (k : Int), e = .returned (.tuple #[v', .int .i64 k]) ∧ l.length ≤ 256 ∧ -9223372036854775808 ≤ k ∧ k ≤ 4611686018427387904 ∧ OwnD w' w.heap.size v' l ∧ Below w.heap.size w w' := by
  go_enter Tryd.func5, Tryd.ntmps5
  go_wp2_with fail
  refine (new_any va bs w ha hl (bytes_allQ hz)).mono ?_
  rintro e w1 ⟨rfl, hst1, hb1, hs1⟩
  go_wp2_with fail
  refine (l11Draw_any w.heap.size va bs w1 hst1 hl (bytes_allQ hz)).mono ?_
  rintro e w2 ⟨v', l, rfl, hll, ho2, hst2, hg2⟩
  have hvn : ∀ k, some w.heap.size = some k → v'.ownBlock ≠ some k := fun k hk h => by cases hk; have := (ho2.lt _ h).1; omega
  have hb2 : Below w.heap.size w w2 := hb1.grown hg2 (by omega) (fun k hk => by cases hk; exact Nat.le_refl _)
  have hs2 := hg2.size
  obtain ⟨av, cv, hvv⟩ := ownG_shape ho2
  clear hst1 ha hg2
  go_wp2_with fail
  refine (drawKey_any w.heap.size va bs w2 hst2 hl (bytes_allQ hz)).mono ?_
  rintro e w3 ⟨k, rfl, hk0, hk1, hst3, hg3⟩
  have ho3 : OwnD w3 w1.heap.size v' l := owns_grown ho2 hg3 hvn
  have hb3 : Below w.heap.size w w3 := hb2.grown hg3 hb2.size (fun k hk => by cases hk; exact Nat.le_refl _)
  clear hst2 hg3 hb2 ho2
  have HB : Hid (Below w.heap.size w w3) := hb3
  have HO : Hid (OwnD w3 w.heap.size v' l) := owns_base ho3 (by omega)
  clear hst3 hb3 ho3 hvn
  subst hvv
  go_wp2
  go_ret2
  exact ⟨_, l, k, rfl, hll, hk0, hk1, HO.out, HB.out⟩
set_option maxHeartbeats 1000000 in
theorem dDrawOwners_any (va : Value) (bs : List Int) (w : World) (ha : Rd w va (cellsByteS bs)) (hl : bs.length ≤ 4096) (hz : Bytes bs) :
    Calls Tryd.prog 7 #[va] w fun e w' => ∃ (v' : Value) (l : List Dt) (k n : Int), e = .returned (.tuple #[v', .int .i64 k, .int .i64 n]) ∧ l.length ≤ 256 ∧ -9223372036854775808 ≤ k ∧ k ≤ 4611686018427387904 ∧ -1 ≤ n ∧ n ≤ 8 ∧ OwnD w' w.heap.size v' l ∧ Below w.heap.size w w' := by
  go_enter Tryd.func7, Tryd.ntmps7
  go_wp2_with fail
  refine (new_any va bs w ha hl (bytes_allQ hz)).mono ?_
  rintro e w1 ⟨rfl, hst1, hb1, hs1⟩
  go_wp2_with fail
  refine (l11Draw_any w.heap.size va bs w1 hst1 hl (bytes_allQ hz)).mono ?_
  rintro e w2 ⟨v', l, rfl, hll, ho2, hst2, hg2⟩
  have hvn : ∀ k, some w.heap.size = some k → v'.ownBlock ≠ some k := fun k hk h => by cases hk; have := (ho2.lt _ h).1; omega
  have hb2 : Below w.heap.size w w2 := hb1.grown hg2 (by omega) (fun k hk => by cases hk; exact Nat.le_refl _)
  have hs2 := hg2.size
  obtain ⟨av, cv, hvv⟩ := ownG_shape ho2
  clear hst1 ha hg2
  go_wp2_with fail
  refine (drawKey_any w.heap.size va bs w2 hst2 hl (bytes_allQ hz)).mono ?_
  rintro e w3 ⟨k, rfl, hk0, hk1, hst3, hg3⟩
  have ho3 : OwnD w3 w1.heap.size v' l := owns_grown ho2 hg3 hvn
  have hb3 : Below w.heap.size w w3 := hb2.grown hg3 hb2.size (fun k hk => by cases hk; exact Nat.le_refl _)
  clear hst2 hg3 hb2 ho2
  go_wp2_with fail
  refine (fromQ_any w.heap.size va bs (-1) 8 w3 hst3 hl (bytes_allQ hz) (by omega) (by omega) (by omega)).mono ?_
  rintro e w4 ⟨n, rfl, hn0, hn1, hst4, hg4⟩
  have ho4 : OwnD w4 w1.heap.size v' l := owns_grown ho3 hg4 hvn
  have hb4 : Below w.heap.size w w4 := hb3.grown hg4 hb3.size (fun k hk => by cases hk; exact Nat.le_refl _)
  clear hst3 hg4 hb3 ho3
  have HB : Hid (Below w.heap.size w w4) := hb4
  have HO : Hid (OwnD w4 w.heap.size v' l) := owns_base ho4 (by omega)
  clear hst4 hb4 ho4 hvn
  subst hvv
  go_wp2
  go_ret3
  exact ⟨_, l, k, n, rfl, hll, hk0, hk1, hn0, hn1, HO.out, HB.out⟩
set_option maxHeartbeats 1000000 in
theorem dDrawWithout_any (va : Value) (bs : List Int) (w : World) (ha : Rd w va (cellsByteS bs)) (hl : bs.length ≤ 4096) (hz : Bytes bs) :
    Calls Tryd.prog 9 #[va] w fun e w' => ∃ (v' : Value) (l : List Dt) (n : Int), e = .returned (.tuple #[v', .int .i64 n]) ∧ l.length ≤ 256 ∧ -1 ≤ n ∧ n ≤ 8 ∧ OwnD w' w.heap.size v' l ∧ Below w.heap.size w w' := by
  go_enter Tryd.func9, Tryd.ntmps9
  go_wp2_with fail
  refine (new_any va bs w ha hl (bytes_allQ hz)).mono ?_
  rintro e w1 ⟨rfl, hst1, hb1, hs1⟩
  go_wp2_with fail
  refine (l11Draw_any w.heap.size va bs w1 hst1 hl (bytes_allQ hz)).mono ?_
  rintro e w2 ⟨v', l, rfl, hll, ho2, hst2, hg2⟩
  have hvn : ∀ k, some w.heap.size = some k → v'.ownBlock ≠ some k := fun k hk h => by cases hk; have := (ho2.lt _ h).1; omega
  have hb2 : Below w.heap.size w w2 := hb1.grown hg2 (by omega) (fun k hk => by cases hk; exact Nat.le_refl _)
  have hs2 := hg2.size
  obtain ⟨av, cv, hvv⟩ := ownG_shape ho2
  clear hst1 ha hg2
  go_wp2_with fail
  refine (fromQ_any w.heap.size va bs (-1) 8 w2 hst2 hl (bytes_allQ hz) (by omega) (by omega) (by omega)).mono ?_
  rintro e w3 ⟨n, rfl, hn0, hn1, hst3, hg3⟩
  have ho3 : OwnD w3 w1.heap.size v' l := owns_grown ho2 hg3 hvn
  have hb3 : Below w.heap.size w w3 := hb2.grown hg3 hb2.size (fun k hk => by cases hk; exact Nat.le_refl _)
  clear hst2 hg3 hb2 ho2
  have HB : Hid (Below w.heap.size w w3) := hb3
  have HO : Hid (OwnD w3 w.heap.size v' l) := owns_base ho3 (by omega)
  clear hst3 hb3 ho3 hvn
  subst hvv
  go_wp2
  go_ret2
  exact ⟨_, l, n, rfl, hll, hn0, hn1, HO.out, HB.out⟩
end Go.Proofs.YtjjaephhnlhnkacDoor
