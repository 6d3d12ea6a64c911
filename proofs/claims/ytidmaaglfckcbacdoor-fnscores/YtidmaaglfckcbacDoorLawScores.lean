/- FnScores: without one node only its own keys move, and ranks are all nodes in the order of their scores. For every code, without a condition. -/
import Derived.Test.YtidmaaglfckcbacDoorDrawsK
import Derived.Test.YtidmaaglfckcbacDoorScoI
import Derived.Test.YtidmaaglfckcbacDoorHasL
import Derived.Test.YtidmaaglfckcbacDoorPick
import Derived.Test.YtidmaaglfckcbacDoorLikeI
import Derived.Test.YtidmaaglfckcbacDoorIdxL
import Derived.Deep.RegionHeld
import Derived.Test.YtidmaaglfckcbacDoorArgs
import Derived.Test.YtidmaaglfckcbacDoorCards
import Derived.Test.YtidmaaglfckcbacDoorTie
import Derived.SevenTiedAt
import Derived.LaidMore
import Derived.Stop.Joined
namespace Go.Proofs.YtidmaaglfckcbacDoor.fnScores
open Go.ChangeShapes Go.WideShapes Go.ChangeAt Go.RowKit
set_option linter.unusedVariables false
set_option maxHeartbeats 8000000 in
set_option maxRecDepth 100000 in
theorem walk (va : Value) (bs : List Int) (w : World) (hL : laidMetH Tryd.prog Rows.fnScoresRow.laid w) (ha : Rd w va (cellsByteS bs)) (hz : Bytes bs) (hn : bs.length ≤ 9223372036854775807) :
    Calls Tryd.prog 4 #[va] w fun e w' => e = .returned (.bool true) ∧ Below w.heap.size w w' := by
  have HTAB0 : TabP w := tab_of hL
  have HTAB := Lib.hid (fun (W : World) (hB : Below w.heap.size w W) => tab_below HTAB0 hB)
  clear HTAB0 hL
  have hla : (cellsByteS bs).length = bs.length := by simp
  obtain ⟨ao, cap, hval, hcap, _⟩ := id ha
  rw [hla] at hval hcap
  by_cases hbig : bs.length ≤ 4096
  rotate_left
  focus
    subst hval
    have hbI : (4096 : Int) < (bs.length : Int) := by omega
    have hbg : Calls Tryd.prog 5 #[.slice ao bs.length cap] w fun e w' => e = .returned (.bool true) ∧ w' = w := by
      clear ha hz HTAB
      go_enter Tryd.func5, Tryd.ntmps5
      go_wp2
      go_ret
      exact ⟨by first | rfl | (congr 1; simp; omega), rfl⟩
    clear ha hz HTAB
    go_enter Tryd.func4, Tryd.ntmps4
    go_wp2_with fail
    refine hbg.mono ?_
    rintro e w1 ⟨rfl, rfl⟩
    go_wp2
    go_ret
    exact ⟨rfl, Below.refl _ _⟩
  have hbI : ¬ (4096 : Int) < (bs.length : Int) := by omega
  have hbg : Calls Tryd.prog 5 #[.slice ao bs.length cap] w fun e w' => e = .returned (.bool false) ∧ w' = w := by
    clear ha hz HTAB
    go_enter Tryd.func5, Tryd.ntmps5
    go_wp2
    go_ret
    exact ⟨by first | rfl | (congr 1; simp; omega), rfl⟩
  subst hval
  have HZ := Lib.hid (bytes_allQ hz)
  have hdr := drawRanks_any (.slice ao bs.length cap) bs w ha hbig hz
  have HDS := Lib.hid (fun (W : World) (h : Below w.heap.size w W) => drawScore_any (.slice ao bs.length cap) bs W (rd_below ha h) hbig hz)
  have HPK := Lib.hid (fun (seed n : Int) (W : World) (h : Below w.heap.size w W) (h0 : 0 ≤ seed) (h1 : seed ≤ 1000000) (hn : 0 < n) (hn2 : n ≤ 4611686018427387903) => pick_any (.slice ao bs.length cap) bs seed n W (rd_below ha h) hbig HZ.out h0 h1 hn hn2)
  clear hz ha hbI hn
  go_enter Tryd.func4, Tryd.ntmps4
  go_wp2_with fail
  refine hbg.mono ?_
  rintro e w0 ⟨rfl, hw0⟩
  replace hw0 := hw0.symm
  subst hw0
  clear hbg
  go_wp2_with fail
  refine hdr.mono ?_
  rintro e w1 ⟨vn, xs, key, rfl, hxl, hxr, hk0, hk1, hoN1, hB1⟩
  clear hdr
  have hs1 := hB1.size
  have HRK : Hid (∀ (W : World) (v : Value) (ys : List Int), Below w.heap.size w W → Rd W v (cellsInt64S ys) → ys.length ≤ 1048576 → (∀ x ∈ ys, x ≤ 9223372036854775807) → Calls Tryd.prog 25 #[v, .int .i64 key] W fun e w' => ∃ u, e = .returned u ∧ w'.ownsRow W.heap.size 2 1 u (ranksT ys key).length (cellsInt64S (ranksT ys key)) ∧ Below W.heap.size W w') := fun W v ys hB h hl hi => implRanks_any v ys key W (HTAB.out W hB) h hl (by omega) hi
  have HWI : Hid (∀ (W : World) (v : Value) (ys : List Int), Below w.heap.size w W → Rd W v (cellsInt64S ys) → ys.length ≤ 1048576 → (∀ x ∈ ys, x ≤ 9223372036854775807) → Calls Tryd.prog 26 #[v, .int .i64 key] W fun e w' => e = .returned (.int .i64 (winT ys key)) ∧ Below W.heap.size W w') := fun W v ys hB h hl hi => implWinner_any v ys key W (HTAB.out W hB) h hl (by omega) hi
  have HSC : Hid (∀ (W : World) (n k : Int), Below w.heap.size w W → n ≤ 9223372036854775807 → k ≤ 9223372036854775807 → Calls Tryd.prog 30 #[.int .i64 n, .int .i64 k] W fun e w' => e = .returned (.int .i64 (scoT n k)) ∧ Below W.heap.size W w') := fun W n k hB hn hk => implScore_any n k W (HTAB.out W hB) hn hk
  have hspr := Lib.hid (fun (W : World) (v : Value) (h : Rd W v (cellsInt64S xs)) => specRanksT_any v xs key W h (by omega) (by omega))
  have hspw := Lib.hid (fun (W : World) (v : Value) (h : Rd W v (cellsInt64S xs)) => specWinnerT_any v xs key W h (by omega) (by omega))
  have HXL : Hid (∀ (p : Int → Bool), ∀ x ∈ xs.filter p, x ≤ 9223372036854775807) := fun p x hx => by have := hxr x (List.mem_filter.1 hx).1; omega
  have hxin : ∀ x ∈ xs, x ≤ 9223372036854775807 := fun x hx => by have := hxr x hx; omega
  have hrk := HRK.out w1 vn xs hB1 (rd_owns hoN1) (by omega) hxin
  have hwi := Lib.hid (fun (W : World) (hB : Below w.heap.size w W) (h : Rd W vn (cellsInt64S xs)) => HWI.out W vn xs hB h (by omega) hxin)
  clear hxin
  obtain ⟨a, hA⟩ : ∃ a, a = winT xs key := ⟨_, rfl⟩
  obtain ⟨R, hR⟩ : ∃ R, R = ranksT xs key := ⟨_, rfl⟩
  have HA := Lib.hid hA
  have HR := Lib.hid hR
  have hRl : R.length ≤ 16 := by rw [hR]; exact ranksT_len xs key
  rw [← hA] at hspw hwi
  rw [← hR] at hrk hspr
  have hne : (a != a) = false := by simp
  obtain ⟨an, cn, hvn⟩ := owns_slice hoN1
  subst hvn
  clear hA hR HTAB
  go_wp2_with fail
  refine hrk.mono ?_
  rintro e w2 ⟨vr, rfl, hoR2, hb2⟩
  have hoN2 := owns_below hoN1 hb2
  have hB2 := hB1.trans (hb2.mono hs1)
  have hs2 := hB2.size
  have hoR2 := owns_base hoR2 hs1
  have hwi2 := hwi.out w2 hB2 (rd_owns hoN2)
  clear hrk hoN1 hB1 hb2 hwi
  go_wp2_with fail
  refine hwi2.mono ?_
  rintro e w3 ⟨rfl, hb3⟩
  have hoN3 := owns_below hoN2 hb3
  have hoR3 := owns_below hoR2 hb3
  have hB3 := hB2.trans (hb3.mono hs2)
  have hs3 := hB3.size
  have hds := HDS.out w3 hB3
  clear hwi2 hoN2 hoR2 hB2 hb3 HDS
  go_wp2_with fail
  refine hds.mono ?_
  rintro e w4 ⟨n9, k9, rfl, hn0, hn1, hkk0, hkk1, hb4⟩
  have hoN4 := owns_below hoN3 hb4
  have hoR4 := owns_below hoR3 hb4
  have hB4 := hB3.trans (hb4.mono hs3)
  have hs4 := hB4.size
  have hsp4 := hspr.out w4 _ (rd_owns hoN4)
  clear hds hoN3 hoR3 hB3 hb4 hspr
  go_wp2_with fail
  refine hsp4.mono ?_
  rintro e w5 ⟨v5, rfl, hoX5, hb5⟩
  have hoN5 := owns_below hoN4 hb5
  have hoR5 := owns_below hoR4 hb5
  have hB5 := hB4.trans (hb5.mono hs4)
  have hs5 := hB5.size
  have hlk := likeInts_any vr v5 R R w5 (rd_owns hoR5) (rd_owns hoX5) (by omega) (by omega)
  rw [decide_eq_true rfl] at hlk
  clear hsp4 hoN4 hoR4 hB4 hb5 hoX5
  go_wp2_with fail
  refine hlk.mono ?_
  rintro e w6 ⟨rfl, hb6⟩
  have hoN6 := owns_below hoN5 hb6
  have hoR6 := owns_below hoR5 hb6
  have hB6 := hB5.trans (hb6.mono hs5)
  have hs6 := hB6.size
  have hsp6 := hspw.out w6 _ (rd_owns hoN6)
  clear hlk hoN5 hoR5 hB5 hb6 hspw
  go_wp2_with fail
  refine hsp6.mono ?_
  rintro e w7 ⟨rfl, hb7⟩
  have hoN7 := owns_below hoN6 hb7
  have hoR7 := owns_below hoR6 hb7
  have hB7 := hB6.trans (hb7.mono hs6)
  have hs7 := hB7.size
  have hi7 := HSC.out w7 n9 k9 hB7 (by omega) (by omega)
  have hs9 := Lib.hid (fun W => specScore_any n9 k9 W (by omega) (by omega))
  have hne2 : (scoT n9 k9 != scoT n9 k9) = false := by simp
  generalize scoT n9 k9 = s9 at hi7 hs9 hne2
  clear hsp6 hoN6 hoR6 hB6 hb7
  go_wp2_with fail
  refine hi7.mono ?_
  rintro e w8 ⟨rfl, hb8⟩
  have hoN8 := owns_below hoN7 hb8
  have hoR8 := owns_below hoR7 hb8
  have hB8 := hB7.trans (hb8.mono hs7)
  have hs8 := hB8.size
  have hs9b := hs9.out w8
  clear hi7 hoN7 hoR7 hB7 hb8 hs9
  go_wp2_with fail
  refine hs9b.mono ?_
  rintro e w9 ⟨rfl, hb9⟩
  have hoN9 := owns_below hoN8 hb9
  have hoR9 := owns_below hoR8 hb9
  have hB9 := hB8.trans (hb9.mono hs8)
  have hs9 := hB9.size
  obtain ⟨ar, cr, hvr⟩ := owns_slice hoR9
  clear hs9b hoN8 hoR8 hB8 hb9
  by_cases hnk : NodesK xs key
  rotate_left
  focus
    have hR0 : R = [] := by rw [HR.out]; exact ranksT_no hnk
    have ha1 : a = -1 := by rw [HA.out]; exact winT_no hnk
    have HB := Lib.hid hB9
    rw [hR0] at hvr
    have hvr2 : vr = .slice ar 0 cr := by simpa using hvr
    subst hvr2
    subst ha1
    clear HR HA hoN9 hoR9 hB9 HRK HWI HSC HPK hR0 hvr
    go_wp2
    go_ret
    exact ⟨by first | rfl | simp, HB.out⟩
  have hir := ranksT_is hnk
  rw [← HR.out] at hir
  have hRx : R.length = xs.length := ranks_len hir
  have hx1 : 1 ≤ xs.length := hnk.1.1.1
  have hwin : ∃ t, R = a :: t := by
    cases hc : R with
    | nil => rw [hc] at hRx; simp at hRx; omega
    | cons y t =>
      have e9 : a = y := by rw [HA.out]; unfold winT; rw [← HR.out, hc]; rfl
      exact ⟨t, by rw [e9]⟩
  have HRA : Hid (∀ i, i < R.length → R.getD i 0 ∈ xs ∧ -1 ≤ R.getD i 0 ∧ R.getD i 0 ≤ 18) := fun i hi => by
    have h9 : R.getD i 0 ∈ xs := hir.1.mem_iff.1 (by rw [getD_int hi]; exact List.getElem_mem hi)
    exact ⟨h9, hxr _ h9⟩
  have HRS : Hid (∀ i, i < R.length → 0 < i → ¬ scoT (R.getD (i - 1) 0) key < scoT (R.getD i 0) key) := fun i hi h0 => by
    have h9 := List.pairwise_iff_getElem.1 hir.2 (i - 1) i (by omega) hi (by omega)
    rw [getD_int hi, getD_int (show i - 1 < R.length by omega)]
    unfold ahdT at h9
    omega
  have HHD : Hid (R.getD 0 0 = a) := by obtain ⟨t, ht⟩ := hwin; show _ = _; rw [ht]; rfl
  have HLESS : Hid (∀ gone : Int, xs.filter (fun x => !decide (x = gone)) ≠ [] → ranksT (xs.filter (fun x => !decide (x = gone))) key = R.filter (fun x => !decide (x = gone))) := fun gone h => by rw [HR.out]; exact ranksT_less hnk _ h
  have HWIN : Hid (∀ gone : Int, a ≠ gone → (R.filter (fun x => !decide (x = gone))).headD (-1) = a) := fun gone h => by
    obtain ⟨t, ht⟩ := hwin
    rw [ht, List.filter_cons_of_pos (by simp [h])]
    rfl
  have hvnb : ∀ q, (Value.slice an xs.length cn).ownBlock = some q → q < w9.heap.size := fun q hq => (hoN9.lt q hq).2
  have hvrb : ∀ q, vr.ownBlock = some q → q < w9.heap.size := fun q hq => (hoR9.lt q hq).2
  have HXS : Hid (∀ j, j < xs.length → ∃ b off, an = some ⟨b, off, none⟩ ∧ ∀ W : World, W.ownsRow w.heap.size 2 1 (.slice an xs.length cn) xs.length (cellsInt64S xs) → W.cell? ⟨b, off + j, none⟩ = some (.int .i64 (xs.getD j 0))) := fun j hj => by
    rcases hoN9.2 with ⟨h0, h9⟩ | ⟨g, cap9, cur9, h9, _⟩
    · omega
    · simp only [Value.slice.injEq] at h9
      obtain ⟨e1, _, e3⟩ := h9
      subst e1
      exact ⟨g, 0, rfl, fun W hW => by rw [Nat.zero_add]; exact (hW.cellAt j (by omega)).trans (ints_get _ xs j hj)⟩
  have HXR : Hid (∀ j, j < R.length → ∃ b off, ar = some ⟨b, off, none⟩ ∧ ∀ W : World, W.ownsRow w.heap.size 2 1 (.slice ar R.length cr) R.length (cellsInt64S R) → W.cell? ⟨b, off + j, none⟩ = some (.int .i64 (R.getD j 0))) := fun j hj => by
    rcases hoR9.2 with ⟨h0, h9⟩ | ⟨g, cap9, cur9, h9, _⟩
    · omega
    · have h8 := hvr.symm.trans h9
      simp only [Value.slice.injEq] at h8
      obtain ⟨e1, _, e3⟩ := h8
      subst e1
      exact ⟨g, 0, rfl, fun W hW => by rw [Nat.zero_add]; exact (hW.cellAt j (by omega)).trans (ints_get _ R j hj)⟩
  obtain ⟨L, hL⟩ : ∃ L, L = xs.length := ⟨_, rfl⟩
  rw [hRx, ← hL] at hvr hoR9 HRA HRS HXR
  rw [← hL] at hoN9 HXS hvnb hx1 hxl ⊢
  subst hvr
  have HRL : Hid (R.length = L) := by rw [hL]; exact hRx
  have HL := Lib.hid hL
  clear HR HA hwin hir hnk hxr hRl hL hRx
  obtain ⟨br, offr, har, HC0⟩ := HXR.out 0 (by omega)
  have d0 := HC0 w9 hoR9
  rw [HHD.out] at d0
  have hL1 : ¬ (L : Int) = 0 := by omega
  have hL1b : ((L : Int) == 0) = false := by simp; omega
  have hLp : (0 : Int) < (L : Int) := by omega
  have hLne : ((L : Int) != (L : Int)) = false := by simp
  clear HC0
  subst har
  rw [Nat.add_zero] at d0
  have HHAS := Lib.hid (fun (W : World) (d : Int) (h : W.ownsRow w.heap.size 2 1 (.slice an L cn) L (cellsInt64S xs)) (hd : d ∈ xs) => (hasL_any (.slice an L cn) xs d W (rd_owns h) (by have := HL.out; omega)).mono (fun e w' h9 => (⟨by rw [h9.1]; congr 2; simpa using hd, h9.2⟩ : e = .returned (.bool true) ∧ w' = W)))
  go_wp2

  go_loopw [9] (fun v9 wr => ∃ k : Nat, v9 = .int .i64 (k : Int) ∧ k ≤ L ∧ wr.ownsRow w.heap.size 2 1 (.slice an L cn) L (cellsInt64S xs) ∧ wr.ownsRow w.heap.size 2 1 (.slice (some ⟨br, offr, none⟩) L cr) L (cellsInt64S R) ∧ Below w9.heap.size w9 wr) (fun i _ => L - (intOf i).toNat)
  case atStart => exact ⟨0, rfl, Nat.zero_le _, hoN9, hoR9, Below.refl _ _⟩
  case round =>
    rename World => wr
    obtain ⟨k, rfl, hk, hoN, hoR, hb⟩ := hrel
    clear hoN9 hoR9 d0
    have hsr := hb.size
    by_cases hltk : k < L
    · have hltI : (k : Int) < (L : Int) := by omega
      obtain ⟨hin, hlo, hhi⟩ := HRA.out k hltk
      have HCK : Hid (∀ W, Below wr.heap.size wr W → W.cell? ⟨br, offr + k, none⟩ = some (.int .i64 (R.getD k 0))) := fun W hW => by
        obtain ⟨b, off, h1, h2⟩ := HXR.out k hltk
        simp only [Option.some.injEq, Addr.mk.injEq, and_true] at h1
        obtain ⟨rfl, rfl⟩ := h1
        exact h2 W (owns_below hoR hW)
      have HH1 := Lib.hid (fun (W : World) (hW : Below wr.heap.size wr W) => HHAS.out W (R.getD k 0) (owns_below hoN hW) hin)
      have HSK := Lib.hid (fun (W : World) (hW : Below wr.heap.size wr W) => HSC.out W (R.getD k 0) key (hB9.trans (hb.mono hs9 |>.trans (hW.mono (by omega)))) (by omega) (by omega))
      by_cases hk0' : k = 0
      · subst hk0'
        have hc0 := HCK.out wr (Below.refl _ _)
        have hh0 := HH1.out
        generalize R.getD 0 0 = x at hc0 hh0
        have HHQ := Lib.hid (fun (d : Nat) => hh0 (wr.drewN d) (below_drewN (Below.refl _ _) _))
        have HN := Lib.hid hoN
        have HRr := Lib.hid hoR
        have HB := Lib.hid hb
        have g3 : decide ((0 : Int) < 0) = false := rfl
        clear HCK HH1 HSK hin hh0 hoN hoR hb
        rw [Nat.add_zero] at hc0
        go_wp2
        go_quiet (first | (go_at_call 22; refine (HHQ.out _).mono ?_; rintro e w8 ⟨rfl, rfl⟩; exact ⟨rfl, ⟨_, rfl⟩⟩))
        go_wp2
        go_roundw
        case rel => exact ⟨1, by go_num, by omega, owns_below HN.out (by first | exact below_drewN (Below.refl _ _) _ | exact Below.refl _ _), owns_below HRr.out (by first | exact below_drewN (Below.refl _ _) _ | exact Below.refl _ _), by first | exact below_drewN HB.out _ | exact HB.out⟩
        case measure => simp [intOf]; omega
      · obtain ⟨j, hj⟩ : ∃ j : Nat, (k : Int) - 1 = (j : Int) := ⟨k - 1, by omega⟩
        have hjk : k - 1 = j := by omega
        have hjL : j < L := by omega
        have hs := HRS.out k hltk (by omega)
        rw [hjk] at hs
        obtain ⟨_, hlo2, hhi2⟩ := HRA.out j hjL
        have HCJ : Hid (∀ W, Below wr.heap.size wr W → W.cell? ⟨br, offr + j, none⟩ = some (.int .i64 (R.getD j 0))) := fun W hW => by
          obtain ⟨b, off, h1, h2⟩ := HXR.out j hjL
          simp only [Option.some.injEq, Addr.mk.injEq, and_true] at h1
          obtain ⟨rfl, rfl⟩ := h1
          exact h2 W (owns_below hoR hW)
        have HSJ := Lib.hid (fun (W : World) (hW : Below wr.heap.size wr W) => HSC.out W (R.getD j 0) key (hB9.trans (hb.mono hs9 |>.trans (hW.mono (by omega)))) (by omega) (by omega))
        have HCB : Hid (∀ W, Below wr.heap.size wr W → W.cell? ⟨br, offr + k, none⟩ = some (.int .i64 (R.getD k 0)) ∧ W.cell? ⟨br, offr + j, none⟩ = some (.int .i64 (R.getD j 0))) := fun W hW => ⟨HCK.out W hW, HCJ.out W hW⟩
        generalize scoT (R.getD k 0) key = sk at hs HSK
        generalize scoT (R.getD j 0) key = sj at hs HSJ
        generalize R.getD k 0 = x at HH1 HSK HCB hlo hhi hin
        generalize R.getD j 0 = y at HSJ HCB hlo2 hhi2
        have hjI : IntKind.i64.wrap ((k : Int) - 1) = (j : Int) := by rw [hj]; exact IntWalk.i64_in _ ⟨by omega, by omega⟩
        have hjw : IntKind.i64.wrap (j : Int) = (j : Int) := IntWalk.i64_in _ ⟨by omega, by omega⟩
        have hjnI : (j : Int) < (L : Int) := by omega
        have hkp : (0 : Int) < (k : Int) := by omega
        have g3 : decide (sj < sk) = false := decide_eq_false (by omega)
        have hkn : 0 < k := by omega
        have g4 : decide (0 < k) = true := decide_eq_true hkn
        have HB0 : Hid (Below wr.heap.size wr wr.drew) := (Below.refl _ _).drew
        have k0 := HCB.out _ HB0.out
        have HN := Lib.hid hoN
        have HRr := Lib.hid hoR
        have HB := Lib.hid hb
        clear HCK HCJ hin hoN hoR hb hj hjk
        go_wp2
        go_region_held (fun W : World => W.cell? ⟨br, offr + k, none⟩ = some (.int .i64 x) ∧ W.cell? ⟨br, offr + j, none⟩ = some (.int .i64 y))
          (first | exact k0 | exact k2 | exact k3)
          (first
          | (go_at_call 30; refine (HSJ.out _ HBb.out).mono ?_; rintro e w3 ⟨rfl, hb3⟩; have HBc : Hid (Below wr.heap.size wr w3) := HBb.out.trans (hb3.mono HBb.out.size); have k3 := HCB.out _ HBc.out; clear hb3)
          | (go_at_call 30; refine (HSK.out _ HBa.out).mono ?_; rintro e w2 ⟨rfl, hb2⟩; have HBb : Hid (Below wr.heap.size wr w2) := HBa.out.trans (hb2.mono HBa.out.size); have k2 := HCB.out _ HBb.out; clear hb2)
          | (go_at_call 22; refine (HH1.out _ HB0.out).mono ?_; rintro e w1 ⟨rfl, rfl⟩; have HBa := HB0))
        go_wp2
        go_roundw
        case rel => exact ⟨k + 1, by go_num, by omega, owns_below HN.out HBc.out, owns_below HRr.out HBc.out, HB.out.trans (HBc.out.mono hsr)⟩
        case measure => simp [intOf]; omega
    -- all are in order; one goes
    have hB := hB9.trans (hb.mono hs9)
    have hsz := hB.size
    have hpk := HPK.out 1 (L : Int) wr hB (by omega) (by omega) (by omega) (by omega)
    clear hb hB9 HHAS HRA HRS HSC
    go_wp2_with fail
    refine hpk.mono ?_
    rintro e u1 ⟨r, rfl, hr0, hr1, hbu⟩
    obtain ⟨g, hg⟩ : ∃ g : Nat, r = (g : Int) := ⟨r.toNat, by omega⟩
    subst hg
    have hgL : g < L := by omega
    have hoN1 := owns_below hoN hbu
    have hoR1 := owns_below hoR hbu
    have hBu := hB.trans (hbu.mono hsz)
    obtain ⟨bx, offx, han, hCx⟩ := HXS.out g hgL
    subst han
    have c0 := hCx u1 hoN1
    have HCX : Hid (∀ j, j < L → ∀ W, Below u1.heap.size u1 W → W.cell? ⟨bx, offx + j, none⟩ = some (.int .i64 (xs.getD j 0))) := fun j hj W hW => by
      obtain ⟨b, off, h1, h2⟩ := HXS.out j hj
      simp only [Option.some.injEq, Addr.mk.injEq, and_true] at h1
      obtain ⟨rfl, rfl⟩ := h1
      exact h2 W (owns_below hoN1 hW)
    have HCR : Hid (∀ j, j < L → ∀ W, Below u1.heap.size u1 W → W.cell? ⟨br, offr + j, none⟩ = some (.int .i64 (R.getD j 0))) := fun j hj W hW => by
      obtain ⟨b, off, h1, h2⟩ := HXR.out j hj
      simp only [Option.some.injEq, Addr.mk.injEq, and_true] at h1
      obtain ⟨rfl, rfl⟩ := h1
      exact h2 W (owns_below hoR1 hW)
    have hgI : (g : Int) < (L : Int) := by omega
    obtain ⟨gone, hgone⟩ : ∃ gone, gone = xs.getD g 0 := ⟨_, rfl⟩
    rw [← hgone] at c0
    have HLS := Lib.hid (HLESS.out gone)
    have HWN := Lib.hid (HWIN.out gone)
    obtain ⟨P, hP⟩ : ∃ P : Int → Bool, P = fun x => !decide (x = gone) := ⟨_, rfl⟩
    have HPe := Lib.hid (fun x => congrFun hP x)
    rw [← hP] at HLS HWN
    have HFX : Hid (∀ k, k < L → (xs.take (k + 1)).filter P = (xs.take k).filter P ++ (if P (xs.getD k 0) = true then [xs.getD k 0] else [])) := fun k hk => filter_next P xs 0 k (by rw [← HL.out]; exact hk)
    have HFR : Hid (∀ k, k < L → (R.take (k + 1)).filter P = (R.take k).filter P ++ (if P (R.getD k 0) = true then [R.getD k 0] else [])) := fun k hk => filter_next P R 0 k (by rw [HRL.out]; exact hk)
    have HFXE : Hid ((xs.take L).filter P = xs.filter P) := by show _ = _; rw [HL.out, List.take_length]
    have HFRE : Hid ((R.take L).filter P = R.filter P) := by show _ = _; rw [← HRL.out, List.take_length]
    have hA1 : Below u1.heap.size u1 (u1.alloc (.cells #[] 2)) := (Below.refl _ _).alloc (Nat.le_refl _) _
    have hsA1 : (u1.alloc (.cells #[] 2)).heap.size = u1.heap.size + 1 := by rw [World.size_alloc]
    have hA2 : Below u1.heap.size u1 ((u1.alloc (.cells #[] 2)).alloc (.cells #[] 2)) := hA1.alloc (by omega) _
    have hl0 := (World.ownsRow_lit (base := u1.heap.size) (e := 2) (size := 1) u1 #[] 0 (Nat.le_refl _) (Nat.zero_le _) rfl : (u1.alloc (.cells #[] 2)).ownsRow u1.heap.size 2 1 (.slice (some ⟨u1.heap.size, 0, none⟩) 0 0) ([] : List Int).length (cellsInt64S []))
    have hr0' := (World.ownsRow_lit (base := u1.heap.size) (e := 2) (size := 1) (u1.alloc (.cells #[] 2)) #[] 0 (by omega) (Nat.zero_le _) rfl : ((u1.alloc (.cells #[] 2)).alloc (.cells #[] 2)).ownsRow u1.heap.size 2 1 (.slice (some ⟨(u1.alloc (.cells #[] 2)).heap.size, 0, none⟩) 0 0) ([] : List Int).length (cellsInt64S []))
    have hl0b := hl0.alloc (.cells #[] 2)
    rw [hsA1] at hr0'
    obtain ⟨u2, hu2⟩ : ∃ u2, u2 = (u1.alloc (.cells #[] 2)).alloc (.cells #[] 2) := ⟨_, rfl⟩
    clear hpk hoN hoR hbu hB hgone hP hA1 hl0 hCx HXS HXR
    rw [← hu2] at hA2 hr0' hl0b
    go_wp2
    rw [← hu2]
    clear hu2
    go_loopw [11, 12, 13] (fun v11 v12 v13 wq => ∃ (k : Nat) (HA HB : List Int), v13 = .int .i64 (k : Int) ∧ k ≤ L ∧ HA.length ≤ k ∧ HB.length ≤ k ∧ Hid (HA = (xs.take k).filter P) ∧ Hid (HB = (R.take k).filter P) ∧ wq.ownsRow u1.heap.size 2 1 v11 HA.length (cellsInt64S HA) ∧ wq.ownsRow u1.heap.size 2 1 v12 HB.length (cellsInt64S HB) ∧ Hid (∀ q, v11.ownBlock = some q → v12.ownBlock ≠ some q) ∧ Below u1.heap.size u1 wq) (fun _ _ i _ => L - (intOf i).toNat)
    case atStart => exact ⟨0, [], [], rfl, Nat.zero_le _, Nat.le_refl _, Nat.le_refl _, rfl, rfl, hl0b, hr0', fun q hq h => by cases hq; have e9 : u1.heap.size + 1 = u1.heap.size := Option.some.inj h; omega, hA2⟩
    case round =>
      rename World => wq
      obtain ⟨k, HA, HB, rfl, hkL, hAl, hBl, hHA, hHB, hoA, hoB, hdis, hBwq⟩ := hrel
      clear hl0b hr0' hA2 c0
      by_cases hltk2 : k < L
      · have hltI : (k : Int) < (L : Int) := by omega
        have cx := HCX.out k hltk2 wq hBwq
        have cr0 := HCR.out k hltk2 wq hBwq
        have hfx := HFX.out k hltk2
        have hfr := HFR.out k hltk2
        rw [← hHA.out] at hfx
        rw [← hHB.out] at hfr
        have hpx := HPe.out (xs.getD k 0)
        have hpy := HPe.out (R.getD k 0)
        have HCR2 := Lib.hid (HCR.out k hltk2)
        obtain ⟨x, hx⟩ : ∃ x, x = xs.getD k 0 := ⟨_, rfl⟩
        obtain ⟨y, hy⟩ : ∃ y, y = R.getD k 0 := ⟨_, rfl⟩
        rw [← hx] at cx hfx hpx
        rw [← hy] at cr0 hfr hpy HCR2
        obtain ⟨av, cv, hva⟩ := owns_slice hoA
        obtain ⟨bv, cv2, hvb⟩ := owns_slice hoB
        clear hx hy hHA hHB
        subst hva
        subst hvb
        by_cases h1 : x = gone
        · by_cases h2 : y = gone
          · skip
            have HFX2 : Hid (HA = (xs.take (k + 1)).filter P) := by show _ = _; rw [hfx, hpx, decide_eq_true h1]; simp
            have HFR2 : Hid (HB = (R.take (k + 1)).filter P) := by show _ = _; rw [hfr, hpy, decide_eq_true h2]; simp
            have g1 : (x != gone) = false := by simp [h1]
            have g2 : (y != gone) = false := by simp [h2]
            have g3 : (x == gone) = true := by simp [h1]
            have g4 : (y == gone) = true := by simp [h2]
            have HOA := Lib.hid hoA
            have HOB := Lib.hid hoB
            have HBW := Lib.hid hBwq
            clear hfx hfr hpx hpy h1 h2 hoA hoB hBwq
            go_wp2
            go_roundw
            case rel => exact ⟨k + 1, HA, HB, by go_num, by omega, by omega, by omega, HFX2, HFR2, HOA.out, HOB.out, hdis, HBW.out⟩
            case measure => simp [intOf]; omega
          · skip
            have HFX2 : Hid (HA = (xs.take (k + 1)).filter P) := by show _ = _; rw [hfx, hpx, decide_eq_true h1]; simp
            have HFR2 : Hid (HB ++ [y] = (R.take (k + 1)).filter P) := by show _ = _; rw [hfr, hpy, decide_eq_false h2]; simp
            have g1 : (x != gone) = false := by simp [h1]
            have g2 : (y != gone) = true := by simp [h2]
            have g3 : (x == gone) = true := by simp [h1]
            have g4 : (y == gone) = false := by simp [h2]
            clear hfx hfr hpx hpy h1 h2
            have hra41 := (World.ownsRow_lit (base := wq.heap.size) (e := 2) (size := 1) wq #[.int .i64 y] 1 (Nat.le_refl _) (by unfold maxLen; omega) rfl : (wq.alloc (.cells #[.int .i64 y] 2)).ownsRow wq.heap.size 2 1 (.slice (some ⟨wq.heap.size, 0, none⟩) 1 1) 1 (cellsInt64S [y]))
            have hba41 : Below wq.heap.size wq (wq.alloc (.cells #[.int .i64 y] 2)) := (Below.refl _ _).alloc (Nat.le_refl _) _
            have hoa41 := owns_below hoB hba41
            have hob41 := owns_below hoA hba41
            have hB41 := hBwq.trans (hba41.mono hBwq.size)
            have hrq41 := rd_owns hra41
            have hln41 : HB.length + [y].length ≤ 16777216 := by rw [List.length_singleton]; omega
            have hsA41 := hB41.size
            clear hra41 hba41 hoB hoA
            go_wp2_with (at_builtin; refine own_step rfl _ _ rfl u1.heap.size _ (.slice (some ⟨wq.heap.size, 0, none⟩) 1 1) HB [y] rfl rfl hoa41 hrq41 hln41 hsA41 ?_)
            intro v41 w41 hoo41 hg41 hi41
            have hoBx : w41.ownsRow u1.heap.size 2 1 v41 (HB ++ [y]).length (cellsInt64S (HB ++ [y])) := by simpa using hoo41
            have HOB := Lib.hid hoBx
            have HOA := Lib.hid (owns_grown hob41 hg41 (fun q hq h9 => hdis.out q h9 hq))
            have HBW := Lib.hid (hB41.grown hg41 hsA41 (fun q hq => (hoa41.lt q hq).1))
            have HD : Hid (∀ q, (Value.slice av HA.length cv).ownBlock = some q → v41.ownBlock ≠ some q) := fun q hq h9 => by rcases hi41 q h9 with h8 | h8; exact hdis.out q hq h8; have h7 := (hob41.lt q hq).2; rw [World.size_alloc] at h7; omega
            clear hoo41 hg41 hi41 hoa41 hob41 hB41 hrq41 hoBx hBwq hdis
            go_wp2
            go_roundw
            case rel => exact ⟨k + 1, HA, HB ++ [y], by go_num, by omega, by omega, by rw [List.length_append, List.length_singleton]; omega, HFX2, HFR2, HOA.out, HOB.out, HD, HBW.out⟩
            case measure => simp [intOf]; omega
        · by_cases h2 : y = gone
          · skip
            have HFX2 : Hid (HA ++ [x] = (xs.take (k + 1)).filter P) := by show _ = _; rw [hfx, hpx, decide_eq_false h1]; simp
            have HFR2 : Hid (HB = (R.take (k + 1)).filter P) := by show _ = _; rw [hfr, hpy, decide_eq_true h2]; simp
            have g1 : (x != gone) = true := by simp [h1]
            have g2 : (y != gone) = false := by simp [h2]
            have g3 : (x == gone) = false := by simp [h1]
            have g4 : (y == gone) = true := by simp [h2]
            clear hfx hfr hpx hpy h1 h2
            have hra42 := (World.ownsRow_lit (base := wq.heap.size) (e := 2) (size := 1) wq #[.int .i64 x] 1 (Nat.le_refl _) (by unfold maxLen; omega) rfl : (wq.alloc (.cells #[.int .i64 x] 2)).ownsRow wq.heap.size 2 1 (.slice (some ⟨wq.heap.size, 0, none⟩) 1 1) 1 (cellsInt64S [x]))
            have hba42 : Below wq.heap.size wq (wq.alloc (.cells #[.int .i64 x] 2)) := (Below.refl _ _).alloc (Nat.le_refl _) _
            have hoa42 := owns_below hoA hba42
            have hob42 := owns_below hoB hba42
            have hB42 := hBwq.trans (hba42.mono hBwq.size)
            have hrq42 := rd_owns hra42
            have hln42 : HA.length + [x].length ≤ 16777216 := by rw [List.length_singleton]; omega
            have hsA42 := hB42.size
            clear hra42 hba42 hoA hoB
            go_wp2_with (at_builtin; refine own_step rfl _ _ rfl u1.heap.size _ (.slice (some ⟨wq.heap.size, 0, none⟩) 1 1) HA [x] rfl rfl hoa42 hrq42 hln42 hsA42 ?_)
            intro v42 w42 hoo42 hg42 hi42
            have hoAx : w42.ownsRow u1.heap.size 2 1 v42 (HA ++ [x]).length (cellsInt64S (HA ++ [x])) := by simpa using hoo42
            have HOA := Lib.hid hoAx
            have HOB := Lib.hid (owns_grown hob42 hg42 (fun q hq h9 => hdis.out q hq h9))
            have hBx := hB42.grown hg42 hsA42 (fun q hq => (hoa42.lt q hq).1)
            have HBW := Lib.hid hBx
            have cr1 := HCR2.out w42 hBx
            have HD : Hid (∀ q, v42.ownBlock = some q → (Value.slice bv HB.length cv2).ownBlock ≠ some q) := fun q hq h9 => by rcases hi42 q hq with h8 | h8; exact hdis.out q h8 h9; have h7 := (hob42.lt q h9).2; rw [World.size_alloc] at h7; omega
            clear hoo42 hg42 hi42 hoa42 hob42 hB42 hrq42 hoAx hBwq hBx hdis cr0
            go_wp2
            go_roundw
            case rel => exact ⟨k + 1, HA ++ [x], HB, by go_num, by omega, by rw [List.length_append, List.length_singleton]; omega, by omega, HFX2, HFR2, HOA.out, HOB.out, HD, HBW.out⟩
            case measure => simp [intOf]; omega
          · skip
            have HFX2 : Hid (HA ++ [x] = (xs.take (k + 1)).filter P) := by show _ = _; rw [hfx, hpx, decide_eq_false h1]; simp
            have HFR2 : Hid (HB ++ [y] = (R.take (k + 1)).filter P) := by show _ = _; rw [hfr, hpy, decide_eq_false h2]; simp
            have g1 : (x != gone) = true := by simp [h1]
            have g2 : (y != gone) = true := by simp [h2]
            have g3 : (x == gone) = false := by simp [h1]
            have g4 : (y == gone) = false := by simp [h2]
            clear hfx hfr hpx hpy h1 h2
            have hra43 := (World.ownsRow_lit (base := wq.heap.size) (e := 2) (size := 1) wq #[.int .i64 x] 1 (Nat.le_refl _) (by unfold maxLen; omega) rfl : (wq.alloc (.cells #[.int .i64 x] 2)).ownsRow wq.heap.size 2 1 (.slice (some ⟨wq.heap.size, 0, none⟩) 1 1) 1 (cellsInt64S [x]))
            have hba43 : Below wq.heap.size wq (wq.alloc (.cells #[.int .i64 x] 2)) := (Below.refl _ _).alloc (Nat.le_refl _) _
            have hoa43 := owns_below hoA hba43
            have hob43 := owns_below hoB hba43
            have hB43 := hBwq.trans (hba43.mono hBwq.size)
            have hrq43 := rd_owns hra43
            have hln43 : HA.length + [x].length ≤ 16777216 := by rw [List.length_singleton]; omega
            have hsA43 := hB43.size
            clear hra43 hba43 hoA hoB
            go_wp2_with (at_builtin; refine own_step rfl _ _ rfl u1.heap.size _ (.slice (some ⟨wq.heap.size, 0, none⟩) 1 1) HA [x] rfl rfl hoa43 hrq43 hln43 hsA43 ?_)
            intro v43 w43 hoo43 hg43 hi43
            have hoAx : w43.ownsRow u1.heap.size 2 1 v43 (HA ++ [x]).length (cellsInt64S (HA ++ [x])) := by simpa using hoo43
            have hoB := owns_grown hob43 hg43 (fun q hq h9 => hdis.out q hq h9)
            have hBw43 := hB43.grown hg43 hsA43 (fun q hq => (hoa43.lt q hq).1)
            have cr1 := HCR2.out w43 hBw43
            have HD : Hid (∀ q, v43.ownBlock = some q → (Value.slice bv HB.length cv2).ownBlock ≠ some q) := fun q hq h9 => by rcases hi43 q hq with h8 | h8; exact hdis.out q h8 h9; have h7 := (hob43.lt q h9).2; rw [World.size_alloc] at h7; omega
            have hoA := hoAx
            clear hoo43 hg43 hi43 hoa43 hob43 hB43 hrq43 hoAx hBwq hdis cr0
            have hra44 := (World.ownsRow_lit (base := w43.heap.size) (e := 2) (size := 1) w43 #[.int .i64 y] 1 (Nat.le_refl _) (by unfold maxLen; omega) rfl : (w43.alloc (.cells #[.int .i64 y] 2)).ownsRow w43.heap.size 2 1 (.slice (some ⟨w43.heap.size, 0, none⟩) 1 1) 1 (cellsInt64S [y]))
            have hba44 : Below w43.heap.size w43 (w43.alloc (.cells #[.int .i64 y] 2)) := (Below.refl _ _).alloc (Nat.le_refl _) _
            have hoa44 := owns_below hoB hba44
            have hob44 := owns_below hoA hba44
            have hB44 := hBw43.trans (hba44.mono hBw43.size)
            have hrq44 := rd_owns hra44
            have hln44 : HB.length + [y].length ≤ 16777216 := by rw [List.length_singleton]; omega
            have hsA44 := hB44.size
            clear hra44 hba44 hoB hoA
            go_wp2_with (at_builtin; refine own_step rfl _ _ rfl u1.heap.size _ (.slice (some ⟨w43.heap.size, 0, none⟩) 1 1) HB [y] rfl rfl hoa44 hrq44 hln44 hsA44 ?_)
            intro v44 w44 hoo44 hg44 hi44
            have hoBx : w44.ownsRow u1.heap.size 2 1 v44 (HB ++ [y]).length (cellsInt64S (HB ++ [y])) := by simpa using hoo44
            have HOB := Lib.hid hoBx
            have HOA := Lib.hid (owns_grown hob44 hg44 (fun q hq h9 => HD.out q h9 hq))
            have HBW := Lib.hid (hB44.grown hg44 hsA44 (fun q hq => (hoa44.lt q hq).1))
            have HD2 : Hid (∀ q, v43.ownBlock = some q → v44.ownBlock ≠ some q) := fun q hq h9 => by rcases hi44 q h9 with h8 | h8; exact HD.out q hq h8; have h7 := (hob44.lt q hq).2; rw [World.size_alloc] at h7; omega
            clear hoo44 hg44 hi44 hoa44 hob44 hB44 hrq44 hoBx hBw43 HD
            go_wp2
            go_roundw
            case rel => exact ⟨k + 1, HA ++ [x], HB ++ [y], by go_num, by omega, by rw [List.length_append, List.length_singleton]; omega, by rw [List.length_append, List.length_singleton]; omega, HFX2, HFR2, HOA.out, HOB.out, HD2, HBW.out⟩
            case measure => simp [intOf]; omega
      · have hkE : k = L := by omega
        have hea := hHA.out
        have heb := hHB.out
        rw [hkE, HFXE.out] at hea
        rw [hkE, HFRE.out] at heb
        have hAin : Hid (∀ x ∈ HA, x ≤ 9223372036854775807) := by show ∀ x ∈ HA, _; rw [hea]; exact HXL.out _
        have hBq := hBu.trans (hBwq.mono hBu.size)
        obtain ⟨av, cv, hva⟩ := owns_slice hoA
        obtain ⟨bv, cv2, hvb⟩ := owns_slice hoB
        have hkI : ¬ (k : Int) < (L : Int) := by omega
        rw [← hea] at HLS
        rw [← heb] at HLS HWN
        clear hHA hHB hea heb hkE hdis
        by_cases hAe : HA = []
        · rw [hAe] at hva
          rw [List.length_nil] at hva
          have HB := Lib.hid hBq
          clear hoA hoB hBq HLS HWN hBwq
          subst hva
          go_wp2
          go_ret
          exact ⟨rfl, HB.out⟩
        · have hrk2 := HRK.out wq _ HA hBq (rd_owns hoA) (by omega) hAin.out
          have hlsE := HLS.out hAe
          rw [hlsE] at hrk2
          have hA0 : ¬ HA.length = 0 := fun h => hAe (List.eq_nil_of_length_eq_zero h)
          have hA0I : ¬ (HA.length : Int) = 0 := by omega
          have hA0b : ((HA.length : Int) == 0) = false := by simp; omega
          have hwi9 := Lib.hid (fun (W : World) (h : Below wq.heap.size wq W) => HWI.out W _ HA (hBq.trans (h.mono hBq.size)) (rd_owns (owns_below hoA h)) (by omega) hAin.out)
          have hwT : a ≠ gone → winT HA key = a := fun h => by
            unfold winT
            rw [hlsE]
            exact HWN.out h
          have HWT := Lib.hid hwT
          clear HLS HWN hlsE hwT HRK HWI
          subst hva
          subst hvb
          go_wp2_with fail
          refine hrk2.mono ?_
          rintro e z1 ⟨vz, rfl, hoZ, hbz⟩
          have hoB1 := owns_below hoB hbz
          have hlk2 := likeInts_any _ _ HB HB z1 (rd_owns hoZ) (rd_owns hoB1) (by omega) (by omega)
          rw [decide_eq_true rfl] at hlk2
          have hBz := hBq.trans (hbz.mono hBq.size)
          clear hrk2 hoZ hoB1
          go_wp2_with fail
          refine hlk2.mono ?_
          rintro e z2 ⟨rfl, hbz2⟩
          have hBz2 := hBz.trans (hbz2.mono hBz.size)
          have hwi8 := hwi9.out z2 (hbz.trans (hbz2.mono hbz.size))
          clear hlk2 hBz hwi9
          by_cases hag : a = gone
          · have g1 : (a == gone) = true := by simp [hag]
            have HB := Lib.hid hBz2
            clear hwi8 HWT hBz2 hbz2 hbz hoA hoB hBq hBwq
            subst hag
            go_wp2
            go_ret
            exact ⟨by first | rfl | simp, HB.out⟩
          · have g1 : (a == gone) = false := by simp [hag]
            have hT := HWT.out hag
            rw [hT] at hwi8
            have g2 : (a == a) = true := by simp
            clear HWT hT
            go_wp2_with fail
            refine hwi8.mono ?_
            rintro e z3 ⟨rfl, hbz3⟩
            have HB := Lib.hid (hBz2.trans (hbz3.mono hBz2.size))
            clear hwi8 hBz2 hbz3
            go_wp2
            go_ret
            exact ⟨by first | rfl | simp, HB.out⟩
theorem door_met (os : Os) (args : Array Value) : laidMetH Tryd.prog Rows.fnScoresRow.laid ((World.doorLaid Tryd.prog 400 os).forCall (fun _ _ => 0) ⟨#[], args, []⟩).memory :=
  laidMetH_of_parts3 (fuel := 8) (laidMet_of_run' 8 (by kernel_rfl) (by kernel_rfl)) (by kernel_rfl) (by kernel_rfl)
set_option maxRecDepth 100000 in
theorem lifted (os : Os) (started : os.Started) (H : Type) (enc : TypeId × Value → H) :
    ReturnsInHanded {} Tryd.checked os 4 .any (fun w args => (Rows.fnScoresSpec.pre enc Tryd.prog Tryd.f4 [] false w args ∧ laidMetH Tryd.prog Rows.fnScoresRow.laid w) ∧ sizedMet enc Tryd.prog Tryd.f4 (OpenSpec.ofChange Rows.fnScoresSpec) false w args)
      (Rows.fnScoresSpec.post enc Tryd.prog Tryd.f4 false true false false) := by
  refine returnsInHanded_of_change_and (C := Tryd.checked) (X := fun w _ => laidMetH Tryd.prog Rows.fnScoresRow.laid w) (fun _ _ _ hh h => h.of_heap hh) own started (by kernel_rfl) Tryd.func4
    (ChangeSpec.witness_shaped (enc := enc) (C := Tryd.checked) (os := os) (X := fun w _ => laidMetH Tryd.prog Rows.fnScoresRow.laid w) false (World.doorLaid Tryd.prog 400 os) #[.slice none 0 0] 8 rfl (World.shaped_of_RefB (by kernel_rfl) (by kernel_rfl)) (by kernel_rfl) (by kernel_rfl) (by kernel_rfl) (door_met os _)) ?_
  intro W base args ds gs before hval0 hW _ _ hL _
  have hval : ∀ (j : Nat) t v, Tryd.f4.params[j]? = some t → args[j]? = some v → Value.okWide Tryd.prog W .any base t v := hval0
  have hW' := hW
  obtain ⟨p, q, hA0, hV, rfl, hfz, hnd⟩ := hW
  have hA : DataW.TrodAll enc Tryd.prog W 0 (fun _ => true) true Tryd.f4.params.toList args.toList ds p := hA0
  rw [Tryd.params4] at hA hval
  obtain ⟨v0, vs0, d0, ds0, p0, q0, hargs0, rfl, rfl, h0, r0⟩ := trodAll_cons hA
  obtain ⟨rfl, rfl, rfl⟩ := trodAll_nil r0
  obtain rfl : args = #[v0] := by cases args; simp_all
  obtain ⟨rfl, rfl⟩ := trodVars_none hV
  obtain ⟨a0, len0, cap0, rfl⟩ := okWide_slice Tryd.underlying22 (hval 0 22 v0 rfl rfl)
  have k0 := h0
  have lt0 : ∀ x ∈ p0, x.block < W.heap.size := by obtain ⟨m, hm⟩ := k0; exact DataW.trod_lt m _ _ _ hm
  obtain ⟨zs0, hr0, hs0⟩ : ∃ zs : List Int, Rd W (.slice a0 len0 cap0) (zs.map (Value.int .u8)) ∧ ((∀ n ∈ zs, (Lit.int .u8 n).wf = true) ∧ zs.length ≤ 9223372036854775807) := by
    obtain ⟨fuel, hf⟩ := h0
    rcases open_ints Tryd.underlying22 Tryd.underlying5 (by kernel_rfl) hf with ⟨hcs, _⟩ | ⟨x, l, c, zs, hcs, _, hl, hm, hz, _, hcell, hwz⟩
    · simp [Value.cells] at hcs
      obtain ⟨rfl, rfl, rfl⟩ := hcs
      exact ⟨[], ⟨none, 0, rfl, Nat.le_refl _, fun h => absurd rfl h⟩, (fun x hx => absurd hx List.not_mem_nil), Nat.zero_le _⟩
    · simp [Value.cells] at hcs
      obtain ⟨rfl, rfl, rfl⟩ := hcs
      exact arg_ints .u8 hl hm (by simpa using hz) hcell hwz
  clear hA0 hval0
  refine (walk _ zs0 W hL hr0 (wf_bytes hs0.1) hs0.2).mono fun e W' ⟨he, bel⟩ => ?_
  subst he
  exact ⟨_, rfl, _, _, _, [], _, [], hW', trodAll_mk1 (shut_bool Tryd.underlying4 _), (trodAll_cons_mk (Below.trod laidOut (by kernel_rfl) (of_decide_eq_true (by kernel_rfl)) k0 bel lt0) trodAll_mk0), rfl, bel.frame _, fun h => by cases h⟩

theorem over : Rows.fnScoresRow.holds Tryd.pinned (OpenSpec.ofChange Rows.fnScoresSpec) :=
  OpenClaim.holds_of_wide 4 Tryd.f4 rfl rfl rfl rfl rfl rfl rfl ⟨rfl, rfl, rfl, rfl, rfl⟩ rfl rfl rfl rfl rfl (by kernel_rfl) Tryd.func4 (by kernel_rfl)
    (of_decide_eq_true (by kernel_rfl)) (by unfold Func.isWrapper; first | (rw [if_pos (by decide +kernel)]; kernel_rfl) | (rw [if_neg (by decide +kernel)]; exact ⟨rfl, rfl⟩))
    (fun os started H enc _ => lifted os started H enc)

theorem proved : Rows.FnScoresCardSaid :=
  Claim7.holds_tied_plain_at .later [] Rows.fnScoresCard.laidKinds true Rows.fnScoresCard.stood.harness Rows.fnScoresCard.stood.looks
    over (fun _ h => by cases h) (by kernel_rfl) (fun _ h => by cases h) fnScores_row_tie rfl ⟨rfl, rfl⟩ (by kernel_rfl) rfl
    (fun f fn hf hfn => by
      obtain rfl : f = 4 := Option.some.inj ((show Tryd.prog.funcNamed Rows.fnScoresRow.func = some 4 by kernel_rfl).symm.trans hf) |>.symm
      obtain rfl : fn = Tryd.f4 := (Option.some.inj (Tryd.func4.symm.trans hfn)).symm
      exact ⟨by kernel_rfl, fun j t ht => by
        rw [Tryd.params4] at ht
        have hm : t ∈ [22] := by simpa using Array.mem_of_getElem? ht
        have hall : ([22].all fun u => !Tryd.prog.wantsStandIn u) = true := by kernel_rfl
        exact (show Tryd.prog.wantsStandIn t = false by simpa using List.all_eq_true.1 hall t hm)⟩)
    (by kernel_rfl)
end Go.Proofs.YtidmaaglfckcbacDoor.fnScores
