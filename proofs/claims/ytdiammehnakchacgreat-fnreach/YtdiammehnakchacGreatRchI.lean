/- CONTRACTS: the program's come, reachOf, Reach. -/
import Derived.Test.YtdiammehnakchacGreatQue
import Derived.Test.YtdiammehnakchacGreatRchE
import Derived.Test.YtdiammehnakchacGreatTreeI
import Derived.Test.YtdiammehnakchacGreatTreeT
import Derived.Test.YtdiammehnakchacGreatBlF
import Derived.Test.YtdiammehnakchacGreatNumAdd
import Derived.Test.YtdiammehnakchacGreatSrt
namespace Go.Proofs.YtdiammehnakchacGreat
open Go.RowKit Go.Maps
set_option linter.unusedVariables false
/-- what come works on: the box s holds the slice, the box s + 2 the set of block s + 1 -/
def RSt (s n : Nat) (D : DataW Unit) (v : Value) (all : List Int) (w : World) : Prop :=
  w.heap[s]? = some (.cells #[v] 25 (0, 0)) ∧ w.heap[s + 2]? = some (.cells #[.map (some (s + 1))] 78 (0, 0)) ∧ SetM (s + 1) n D w ∧ Has D all ∧ w.ownsRow (s + 3) 2 1 v all.length (cellsInt64S all)
theorem telB_ltS {s n : Nat} {D : DataW Unit} {v : Value} {all : List Int} {w : World} (h : RSt s n D v all w) : s + 2 < w.heap.size := (Array.getElem?_eq_some_iff.1 h.2.1).1
theorem rst_below {s n : Nat} {D : DataW Unit} {v : Value} {all : List Int} {w w' : World} (h : RSt s n D v all w) (hb : Below w.heap.size w w') : RSt s n D v all w' :=
  ⟨(hb.block s (Array.getElem?_eq_some_iff.1 h.1).1).trans h.1, (hb.block (s + 2) (Array.getElem?_eq_some_iff.1 h.2.1).1).trans h.2.1, setM_below h.2.2.1 hb, h.2.2.2.1, owns_below h.2.2.2.2 hb⟩
theorem rst_add {s n n' : Nat} {D D' : DataW Unit} {v : Value} {all : List Int} {w w' : World} (h : RSt s n D v all w) (hg : w.grownBy w' (some (s + 1))) (hm : SetM (s + 1) n' D' w') (hh : Has D' all) : RSt s n' D' v all w' :=
  ⟨(hg.block s (Array.getElem?_eq_some_iff.1 h.1).1 (fun e => by have := Option.some.inj e; omega)).trans h.1, (hg.block (s + 2) (Array.getElem?_eq_some_iff.1 h.2.1).1 (fun e => by have := Option.some.inj e; omega)).trans h.2.1, hm, hh, owns_grown h.2.2.2.2 hg (fun k e h2 => by have e1 := Option.some.inj e; have := (h.2.2.2.2.lt k h2).1; omega)⟩
theorem rst_app {s n : Nat} {D : DataW Unit} {v v' : Value} {all : List Int} {d : Int} {w w' : World} {tmp : Obj} (h : w.heap[s]? = some (.cells #[v] 25 (0, 0))) (h2 : w.heap[s + 2]? = some (.cells #[.map (some (s + 1))] 78 (0, 0))) (h3 : SetM (s + 1) n D w) (hv : ∀ k, v.ownBlock = some k → s + 3 ≤ k)
    (hg : (w.alloc tmp).grownBy w' v.ownBlock) (ho : w'.ownsRow (s + 3) 2 1 v' (all ++ [d]).length (cellsInt64S (all ++ [d]))) (hh : Has D (all ++ [d])) :
    w'.cell? ⟨s, 0, none⟩ = some v ∧ w'.frozen? ⟨s, 0, none⟩ = false ∧ RSt s n D v' (all ++ [d]) (w'.setCell ⟨s, 0, none⟩ v') := by
  have hl := (Array.getElem?_eq_some_iff.1 h).1
  have hl2 := (Array.getElem?_eq_some_iff.1 h2).1
  have hsz := World.size_alloc w tmp
  have b1 := (hg.block s (by omega) (fun e => by have := hv s e.symm; omega)).trans ((Below.heap_alloc w tmp s hl).trans h)
  have b2 := (hg.block (s + 2) (by omega) (fun e => by have := hv (s + 2) e.symm; omega)).trans ((Below.heap_alloc w tmp (s + 2) hl2).trans h2)
  have b3 := setM_grown (World.ownsMap.alloc h3 tmp) hg (fun e => by have := hv (s + 1) e.symm; omega)
  refine ⟨by rw [cell_of_row w' s 0 _ _ (0, 0) b1]; rfl, Lib.frozen_of_heap b1 0, by simp [World.setCell, Array.getElem?_modify, b1], ?_, ?_, hh, ?_⟩
  · exact (Below.heap_setCell w' ⟨s, 0, none⟩ v' (s + 2) (by show s + 2 ≠ s; omega)).trans b2
  · exact setM_grown (row := some s) b3 ⟨rfl, rfl, rfl, by simp [World.setCell], fun k _ hk => Below.heap_setCell _ _ _ _ (fun e => hk (by simp [e]))⟩ (fun e => by have := Option.some.inj e; omega)
  · exact ho.kept (row := some s) ⟨rfl, rfl, rfl, by simp [World.setCell], fun k _ hk => Below.heap_setCell _ _ _ _ (fun e => hk (by simp [e]))⟩ (Or.inr (fun e => by have := (ho.lt _ e).1; omega))
def ComeEnd (s n : Nat) (all ds : List Int) (w : World) (e : Ending) (w' : World) : Prop :=
  e = .returned (.tuple #[]) ∧ ∃ v' D' n', RSt s n' D' v' (comeL all ds) w' ∧ n' ≤ n + ds.length ∧ Below s w w'
set_option maxHeartbeats 4000000 in
set_option maxRecDepth 100000 in
theorem come_any (s n : Nat) (D : DataW Unit) (v vd : Value) (all ds : List Int) (w : World) (h : RSt s n D v all w) (hd : Rd w vd (cellsInt64S ds)) (hdw : ∀ d ∈ ds, -9223372036854775808 ≤ d ∧ d ≤ 9223372036854775807) (hn : n + ds.length ≤ 8388608) (hal : all.length + ds.length ≤ 8388608)
    (hap : ds ≠ [] → ∀ k, vd.ownBlock = some k → k ≠ s ∧ k ≠ s + 1 ∧ v.ownBlock ≠ some k) :
    Calls Tryz.prog 52 #[vd, .pointer (some ⟨s + 2, 0, none⟩), .pointer (some ⟨s, 0, none⟩)] w (ComeEnd s n all ds w) := by
  have hla : (cellsInt64S ds).length = ds.length := by simp
  rcases rd_cases hd with ⟨h0, ao, cap, rfl⟩ | ⟨hp, b, off, cap, rfl, _, hlt, hc⟩
  · have hx : ds = [] := by simpa using h0
    subst hx
    have HRS := Lib.hid h
    clear h hd h0 hap
    go_enter Tryz.func52, Tryz.ntmps52
    go_wp2
    refine wp_loop_rounds 1 ?_
    rw [rounds_succ]
    go_wp2
    refine bodyPost_end (results_none rfl _ _ _) rfl ?_
    exact ⟨rfl, v, D, n, HRS.out, Nat.le_refl _, Below.refl _ _⟩
  rw [hla] at hc hp ⊢
  obtain ⟨hb1, hb2, hb3⟩ := hap (fun e => by subst e; exact absurd hp (Nat.not_lt_zero _)) b rfl
  have HA : Hid (∀ W : World, W.heap[b]? = w.heap[b]? → ∀ j, j < ds.length → W.cell? ⟨b, off + j, none⟩ = some (.int .i64 (ds.getD j 0))) := fun W hW j hj => (World.cell?_of_block (a := ⟨b, off + j, none⟩) hW).trans ((hc j hj).trans (ints_get _ ds j hj))
  have HDW : Hid (∀ j, j < ds.length → -9223372036854775808 ≤ ds.getD j 0 ∧ ds.getD j 0 ≤ 9223372036854775807) := fun j hj => by
    have e : ds.getD j 0 = ds[j] := by simp [List.getD, hj]
    rw [e]
    exact hdw _ (List.getElem_mem hj)
  have HST : Hid (∀ k (acc : List Int), k < ds.length → (acc.contains (ds.getD k 0) = true → comeL acc (ds.drop k) = comeL acc (ds.drop (k + 1))) ∧ (acc.contains (ds.getD k 0) = false → comeL acc (ds.drop k) = comeL (acc ++ [ds.getD k 0]) (ds.drop (k + 1)))) := fun k acc hk => by
    have e : ds.drop k = ds.getD k 0 :: ds.drop (k + 1) := by
      rw [List.drop_eq_getElem_cons hk]
      simp [List.getD, hk]
    rw [e]
    exact ⟨fun h => come_has h, fun h => come_new h⟩
  have HEND : Hid (∀ acc, comeL acc (ds.drop ds.length) = acc) := fun acc => by rw [List.drop_length]; rfl
  have HS0 : Hid (comeL all ds = comeL all (ds.drop 0)) := rfl
  have HFIN : Hid (∀ (W : World) v' D' n', RSt s n' D' v' (comeL all ds) W → n' ≤ n + ds.length → Below s w W → ComeEnd s n all ds w (.returned (.tuple #[])) W) := fun W v' D' n' h1 h2 h3 => ⟨rfl, v', D', n', h1, h2, h3⟩
  generalize ComeEnd s n all ds w = CE at HFIN ⊢
  generalize comeL all ds = R at HS0 HFIN
  obtain ⟨m, hm⟩ : ∃ m, m = ds.length := ⟨_, rfl⟩
  rw [← hm] at hp hn hal HA HDW HST HEND HFIN ⊢
  clear hc hm hla hd hdw hap
  have hbb : Below s w w := Below.refl _ _
  go_enter Tryz.func52, Tryz.ntmps52
  go_wp2
  go_loopw [8] (fun i wr => ∃ (k n' : Nat) (acc : List Int) (v' : Value) (D' : DataW Unit), k ≤ m ∧ i = .int .i64 k ∧ n' ≤ n + k ∧ acc.length ≤ all.length + k ∧ Hid (RSt s n' D' v' acc wr) ∧ Hid (R = comeL acc (ds.drop k)) ∧ wr.heap[b]? = w.heap[b]? ∧ v'.ownBlock ≠ some b ∧ Below s w wr) (fun i _ => m - (intOf i).toNat)
  case atStart => exact ⟨0, n, all, v, D, Nat.zero_le _, rfl, Nat.le_refl _, Nat.le_refl _, h, HS0, rfl, hb3, hbb⟩
  case round =>
    rename World => wr
    obtain ⟨k, n', acc, v', D', hk, rfl, hn', hac, hrs, hrr, hbk, hvb, hbl⟩ := hrel
    clear hbb h
    by_cases hltk : k < m
    · have c0 := HA.out wr hbk k hltk
      have hw := HDW.out k hltk
      obtain ⟨hyes, hno⟩ := HST.out k acc hltk
      obtain ⟨x, hx⟩ : ∃ x, x = ds.getD k 0 := ⟨_, rfl⟩
      rw [← hx] at c0 hw hyes hno
      have HX := Lib.hid hx
      have HY := Lib.hid hyes
      have HNN := Lib.hid hno
      obtain ⟨r1, r2, r3, r4, r5⟩ := hrs.out
      have hadd := add_any (s + 1) n' D' x wr hw r3 (by omega)
      have hIM := World.ownsMap.isMap r3
      rw [r4 x] at hadd
      have cb2 : wr.cell? ⟨s + 2, 0, none⟩ = some (.map (some (s + 1))) := by rw [cell_of_row wr (s + 2) 0 _ _ (0, 0) r2]; rfl
      have hltb : b < wr.heap.size := by have := World.block_lt_of_cell? wr ⟨b, off + k, none⟩ c0; exact this
      have hvlo := fun j (e : v'.ownBlock = some j) => (r5.lt j e).1
      have hsw := hbl.size
      clear hx hyes hno r1 r2 r3 r5
      cases hcn : acc.contains x with
      | true =>
        rw [hcn] at hadd
        have HH := Lib.hid (has_again r4 hIM hcn)
        have HR2 := Lib.hid (hrr.out.trans (HY.out hcn))
        clear r4 hcn HY HNN hrr
        go_wp2_with fail
        refine hadd.mono ?_
        rintro e w2 ⟨rfl, hm2, hg2⟩
        have HRS2 := Lib.hid (rst_add hrs.out hg2 hm2 HH.out)
        have hbk2 : w2.heap[b]? = w.heap[b]? := (hg2.block b hltb (fun e => by have := Option.some.inj e; omega)).trans hbk
        have hbl2 := hbl.grown hg2 (by have := telB_ltS hrs.out; omega) (fun j e => by have := Option.some.inj e; omega)
        clear hadd hm2 hg2 hbl hbk hrs
        go_wp2
        go_roundw
        case rel => exact ⟨k + 1, n' + 1, acc, v', _, by omega, by go_num, by omega, by omega, HRS2, HR2, hbk2, hvb, hbl2⟩
        case measure => simp [intOf]; omega
      | false =>
        rw [hcn] at hadd
        have HH := Lib.hid (has_more r4 hIM x)
        have HR2 := Lib.hid (hrr.out.trans (HNN.out hcn))
        clear r4 hcn HY HNN hrr
        go_wp2_with fail
        refine hadd.mono ?_
        rintro e w2 ⟨rfl, hm2, hg2⟩
        obtain ⟨r1, r2, r3, r4, r5⟩ := hrs.out
        have q1 := (hg2.block s (Array.getElem?_eq_some_iff.1 r1).1 (fun e => by have := Option.some.inj e; omega)).trans r1
        have q2 := (hg2.block (s + 2) (Array.getElem?_eq_some_iff.1 r2).1 (fun e => by have := Option.some.inj e; omega)).trans r2
        have q5 := owns_grown r5 hg2 (fun k e h2 => by have e1 := Option.some.inj e; have := (r5.lt k h2).1; omega)
        have hbk2 : w2.heap[b]? = w.heap[b]? := (hg2.block b hltb (fun e => by have := Option.some.inj e; omega)).trans hbk
        have hlt2 := telB_ltS hrs.out
        have hbl2 := hbl.grown hg2 (by omega) (fun j e => by have := Option.some.inj e; omega)
        have hsz2 := hg2.size
        have cbs : w2.cell? ⟨s, 0, none⟩ = some v' := by rw [cell_of_row w2 s 0 _ _ (0, 0) q1]; rfl
        have ht : ∀ X, (w2.alloc X).cell? ⟨s, 0, none⟩ = some v' := fun X => by rw [cell_of_row (w2.alloc X) s 0 _ _ (0, 0) ((Below.heap_alloc w2 X s (by omega)).trans q1)]; rfl
        have hlit : (w2.alloc (.cells #[.int .i64 x] 2)).ownsRow w2.heap.size 2 1 (.slice (some ⟨w2.heap.size, 0, none⟩) 1 1) [x].length (cellsInt64S [x]) := World.ownsRow_lit (base := w2.heap.size) (e := 2) (size := 1) w2 #[.int .i64 x] 1 (Nat.le_refl _) (by unfold maxLen; omega) rfl
        have hrd := rd_owns hlit
        have ho2 := q5.alloc (.cells #[.int .i64 x] 2)
        have hla2 := World.size_alloc w2 (.cells #[.int .i64 x] 2)
        have hb3 := hbl2.alloc (by omega) (.cells #[.int .i64 x] 2)
        have hbk3 := (Below.heap_alloc w2 (.cells #[.int .i64 x] 2) b (by omega)).trans hbk2
        have hac2 : acc.length + 1 ≤ 16777216 := by omega
        have HPK : Hid (∀ v3 w3, w3.ownsRow (s + 3) 2 1 v3 (acc ++ [x]).length (cellsInt64S (acc ++ [x])) → (w2.alloc (.cells #[.int .i64 x] 2)).grownBy w3 v'.ownBlock → (∀ k, v3.ownBlock = some k → v'.ownBlock = some k ∨ (w2.alloc (.cells #[.int .i64 x] 2)).heap.size ≤ k) →
            w3.cell? ⟨s, 0, none⟩ = some v' ∧ w3.frozen? ⟨s, 0, none⟩ = false ∧ Hid (RSt s (n' + 1) (D'.put (.int .i64 x) unitD) v3 (acc ++ [x]) (w3.setCell ⟨s, 0, none⟩ v3)) ∧ (w3.setCell ⟨s, 0, none⟩ v3).heap[b]? = w.heap[b]? ∧ v3.ownBlock ≠ some b ∧ Below s w (w3.setCell ⟨s, 0, none⟩ v3)) := fun v3 w3 p1 p2 p3 => by
          obtain ⟨c1, c2, hR⟩ := rst_app q1 q2 hm2 (fun k e => hvlo k e) p2 p1 HH.out
          refine ⟨c1, c2, hR, ?_, ?_, (hb3.grown p2 (by omega) (fun j e => by have := hvlo j e; omega)).setCell (p := ⟨s, 0, none⟩) (Nat.le_refl _) v3⟩
          · exact (Below.heap_setCell w3 ⟨s, 0, none⟩ v3 b (by show b ≠ s; omega)).trans ((p2.block b (by omega) (fun e => hvb e.symm)).trans hbk3)
          · intro e
            rcases p3 b e with h1 | h1
            · exact hvb h1
            · omega
        clear hadd hm2 hg2 hbl hbk hrs q1 q2 q5 hlit r1 r2 r3 r4 r5 HH hbl2 hbk2 hb3 hbk3 hvb hvlo hIM cb2 c0
        go_wp2_with (at_builtin; refine own_step rfl _ _ rfl (s + 3) v' (.slice (some ⟨w2.heap.size, 0, none⟩) 1 1) acc [x] rfl rfl ho2 hrd (by simpa using hac2) (by omega) ?_)
        intro v3 w3 p1 p2 p3
        obtain ⟨c1, c2, HRS3, hbk4, hvb4, hbl4⟩ := HPK.out v3 w3 (by simpa using p1) (by simpa using p2) (by simpa using p3)
        obtain ⟨ao3, c3, hv3⟩ := owns_slice p1
        subst hv3
        clear HPK p1 p2 p3 ho2 hrd
        go_wp2
        go_roundw
        case rel => exact ⟨k + 1, n' + 1, acc ++ [x], _, _, by omega, by go_num, by omega, by simp; omega, HRS3, HR2, hbk4, hvb4, hbl4⟩
        case measure => simp [intOf]; omega
    · obtain rfl : k = m := by omega
      have HR3 := Lib.hid (hrr.out.trans (HEND.out acc))
      clear HA HDW HST HEND hrr
      go_wp2
      refine bodyPost_end (results_none rfl _ _ _) rfl ?_
      have e := HR3.out
      exact HFIN.out _ v' D' n' (by rw [e]; exact hrs.out) hn' hbl
theorem child_in64 (s : ByteArray) : ∀ d ∈ (childT s).getD [], -9223372036854775808 ≤ d ∧ d ≤ 9223372036854775807 := fun d hd => by
  cases h : childT s with
  | none => rw [h] at hd; cases hd
  | some l =>
    rw [h] at hd
    rcases child_back h with ⟨_, _, rfl⟩ | ⟨_, hk⟩
    · cases hd
    · have := hk.2.2 d hd
      omega
set_option maxHeartbeats 600000 in
set_option maxRecDepth 100000 in
theorem reachOf_any (va vd : Value) (l : List Bl) (roots : List Int) (w : World) (ha : RdB w va l) (hd : Rd w vd (cellsInt64S roots)) (hdw : ∀ d ∈ roots, -9223372036854775808 ≤ d ∧ d ≤ 9223372036854775807) (hl : l.length ≤ 300) (hs : ∀ p ∈ l, p.2.size ≤ 1048576) (hr : l.Pairwise (fun p q => p.1 < q.1)) (hld : roots.length ≤ 1048576) :
    Calls Tryz.prog 30 #[va, vd] w (ReachEnd (IsReach (stO l) roots) w) := by
  have hmm := @run_makeMap Tryz.prog
  have HRA := Lib.hid (fun (W : World) (h : Below w.heap.size w W) => rdB_below ha h)
  have hb1 := (Below.refl w.heap.size w).alloc (Nat.le_refl _) (.cells #[.slice none 0 0] 25)
  have hb2 := hb1.alloc hb1.size (.map #[] 0)
  have hb3 := hb2.alloc hb2.size (.cells #[.map (some (w.heap.size + 1))] 78)
  have hs1 := World.size_alloc w (.cells #[.slice none 0 0] 25)
  have hs2 := World.size_alloc (w.alloc (.cells #[.slice none 0 0] 25)) (.map #[] 0)
  have hR0 : RSt w.heap.size 0 (.map []) (.slice none 0 0) [] (((w.alloc (.cells #[.slice none 0 0] 25)).alloc (.map #[] 0)).alloc (.cells #[.map (some (w.heap.size + 1))] 78)) := by
    have e1 : (w.alloc (.cells #[.slice none 0 0] 25)).heap[w.heap.size]? = some (.cells #[.slice none 0 0] 25 (0, 0)) := heap_alloc_new w _
    refine ⟨?_, ?_, ?_, has_start, World.ownsRow_nil _ _ _ _⟩
    · exact (Below.heap_alloc _ _ _ (by omega)).trans ((Below.heap_alloc _ _ _ (by omega)).trans e1)
    · have e2 := hs2
      rw [hs1] at e2
      have e3 : ((w.alloc (.cells #[.slice none 0 0] 25)).alloc (.map #[] 0)).heap.size = w.heap.size + 2 := e2
      rw [← e3]
      exact heap_alloc_new _ _
    · have h9 : SetM (w.alloc (.cells #[.slice none 0 0] 25)).heap.size 0 (.map []) ((w.alloc (.cells #[.slice none 0 0] 25)).alloc (.map #[] 0)) := World.ownsMap_made _ _ _ _
      rw [hs1] at h9
      exact World.ownsMap.alloc h9 _
  have hvb : roots ≠ [] → ∀ k, vd.ownBlock = some k → k < w.heap.size := fun hne k hk => by
    rcases rd_cases hd with ⟨h0, _⟩ | ⟨_, b, off, cap, rfl, _, hlt, _⟩
    · exact absurd (by simpa using h0) hne
    · obtain rfl : b = k := Option.some.inj hk
      exact hlt
  have hcm := come_any w.heap.size 0 (.map []) (.slice none 0 0) vd [] roots _ hR0 (rd_below hd hb3) hdw (by omega) (by simp; omega) (fun hne k hk => ⟨by have := hvb hne k hk; omega, by have := hvb hne k hk; omega, fun h => by cases h⟩)
  have HSI : Hid (IInv (stO l) roots (comeL [] roots) 0) := iinv_start _ _
  obtain ⟨ar, cr, hvd⟩ : ∃ ar cr, vd = .slice ar roots.length cr := by
    obtain ⟨ar, cr, h, _⟩ := hd
    rw [List.length_map] at h
    exact ⟨ar, cr, h⟩
  obtain ⟨aa, ca, hva⟩ := rdB_shape ha
  subst hvd
  subst hva
  obtain ⟨A0, hA0⟩ : ∃ A0, A0 = comeL [] roots := ⟨_, rfl⟩
  have HCE : Hid (∀ e w', ComeEnd w.heap.size 0 [] roots (((w.alloc (.cells #[.slice none 0 0] 25)).alloc (.map #[] 0)).alloc (.cells #[.map (some (w.heap.size + 1))] 78)) e w' → e = .returned (.tuple #[]) ∧ ∃ v' D' n', Hid (RSt w.heap.size n' D' v' A0 w') ∧ n' ≤ roots.length ∧ Below w.heap.size w w') := fun e w' h => by
    obtain ⟨h1, v', D', n', h2, h3, h4⟩ := h
    rw [hA0]
    exact ⟨h1, v', D', n', h2, by omega, hb3.trans (h4.mono (Nat.le_refl _))⟩
  rw [← hA0] at HSI
  clear ha hd hb1 hb2 hb3 hs1 hs2 hR0 hvb hA0
  obtain ⟨s, hse⟩ : ∃ s, s = w.heap.size := ⟨_, rfl⟩
  go_enter Tryz.func30, Tryz.ntmps30
  go_wp2_with fail
  refine hcm.mono ?_
  intro e w1 he
  obtain ⟨rfl, v1, D1, n1, hrs1, hn1, hbl1⟩ := HCE.out e w1 he
  clear he HCE hcm
  go_wp2
  go_loopw [8] (fun i wr => ∃ (k n : Nat) (all : List Int) (v : Value) (D : DataW Unit), k ≤ all.length ∧ i = .int .i64 k ∧ n ≤ roots.length + 4 * k ∧ all.length ≤ 1049776 ∧ Hid (RSt w.heap.size n D v all wr) ∧ Hid (IInv (stO l) roots all k) ∧ Below w.heap.size w wr) (fun i _ => 1049777 - (intOf i).toNat)
  case atStart => exact ⟨0, n1, A0, v1, D1, Nat.zero_le _, rfl, hn1, by have := iinv_len HSI.out; omega, hrs1, HSI, hbl1⟩
  case round =>
    rename World => wr
    clear hbl1 hrs1 HSI hn1
    obtain ⟨k, n, all, v, D, hk, rfl, hn, hal, hrs, hii, hbl⟩ := hrel
    obtain ⟨r1, r2, r3, r4, r5⟩ := hrs.out
    obtain ⟨ao, cap, hv⟩ := owns_slice r5
    subst hv
    have cbs : wr.cell? ⟨w.heap.size, 0, none⟩ = some (.slice ao all.length cap) := by rw [cell_of_row wr w.heap.size 0 _ _ (0, 0) r1]; rfl
    by_cases hltk : k < all.length
    · have HII := hii
      obtain ⟨g, c2, hg, _⟩ := owns_head r5 (by omega)
      simp only [Value.slice.injEq] at hg
      obtain ⟨rfl, _, rfl⟩ := hg
      have d0 : wr.cell? ⟨g, k, none⟩ = some (.int .i64 (all.getD k 0)) := (r5.cellAt k (by omega)).trans (ints_get .i64 all k hltk)
      have hgs := fun j (e : (Value.slice (some ⟨g, 0, none⟩) all.length cap).ownBlock = some j) => (r5.lt j e)
      have hkI : (k : Int) < (all.length : Int) := by omega
      have HNX : Hid (IInv (stO l) roots (comeL all (belowT (stO l) (all.getD k 0))) (k + 1)) := iinv_next hii.out hltk
      have HSK : Hid (belowT (stO l) (all.getD k 0) = [] → IInv (stO l) roots all (k + 1)) := fun h => iinv_skip hii.out hltk h
      have hpl := place_any (.slice aa l.length ca) l (all.getD k 0) wr (HRA.out wr hbl) (by omega) hr
      obtain ⟨x, hx⟩ : ∃ x, x = all.getD k 0 := ⟨_, rfl⟩
      rw [← hx] at d0 HNX HSK hpl
      clear hx r1 r2 r3 r4 r5 hii HII
      obtain ⟨na, hna⟩ : ∃ na, na = all.length := ⟨_, rfl⟩
      rw [← hna] at cbs hgs hkI
      go_wp2_with fail
      refine hpl.mono ?_
      rintro e w2 ⟨j, fd, rfl, hplc, hb2⟩
      clear hpl
      have HRS2 := Lib.hid (rst_below hrs.out hb2)
      have hbl2 := hbl.trans (hb2.mono hbl.size)
      cases fd with
      | false =>
        have hno : findB l x = none := plc_no hr hplc
        have HI2 := Lib.hid (HSK.out (by unfold belowT stO; rw [hno]; rfl))
        clear hplc hno HSK HNX hb2 hbl hrs cbs d0
        go_wp2
        go_roundw
        case rel => exact ⟨k + 1, n, all, _, D, by omega, by go_num, by omega, hal, (by rw [hna] at *; exact HRS2), HI2, hbl2⟩
        case measure => simp [intOf]; omega
      | true =>
        obtain ⟨hjl, _, hfb⟩ := plc_yes hplc
        have hst : stO l x = some (l.getD j bl0).2 := by unfold stO; rw [hfb]; rfl
        obtain ⟨b, off, rfl, d1⟩ : ∃ b off, aa = some ⟨b, off, none⟩ ∧ w2.cell? ⟨b, off + j * 2 + 1, none⟩ = some (.string (l.getD j bl0).2) := by
          rcases rdB_cases (HRA.out w2 hbl2) with ⟨h0, _⟩ | ⟨_, b, off, c, hv, _, hlt, hc⟩
          · subst h0; exact absurd hjl (Nat.not_lt_zero _)
          · simp only [Value.slice.injEq] at hv
            exact ⟨b, off, hv.1, (hc j hjl).2⟩
        have hsz : (l.getD j bl0).2.size ≤ 1048576 := by rw [getD_at hjl]; exact hs _ (List.getElem_mem hjl)
        obtain ⟨t, hte⟩ : ∃ t, t = (l.getD j bl0).2 := ⟨_, rfl⟩
        rw [← hte] at hst d1 hsz
        have hch := implChildren_any t w2 hsz
        have e : belowT (stO l) x = (childT t).getD [] := by unfold belowT; rw [hst]
        have hc64 := child_in64 t
        have hc4 := child_four t
        rw [e] at HNX
        unfold ChildEnd at hch
        obtain ⟨R, hR⟩ : ∃ R, R = (childT t).getD [] := ⟨_, rfl⟩
        obtain ⟨r, hrr⟩ : ∃ r, r = (childT t).isSome := ⟨_, rfl⟩
        rw [← hR, ← hrr] at hch
        rw [← hR] at HNX hc64 hc4
        have hjI : ¬ (j : Int) < 0 := by omega
        have hjn : (j : Int) < (l.length : Int) := by omega
        obtain ⟨nl, hnl⟩ : ∃ nl, nl = l.length := ⟨_, rfl⟩
        rw [← hnl] at hjn
        clear hplc hfb hst hte hR hrr e HSK hrs cbs d0 hb2
        go_wp2_with fail
        refine hch.mono ?_
        rintro e w3 ⟨v3, rfl, ho3, hb3⟩
        clear hch d1
        have hs2 := hbl2.size
        have hc2 := telB_ltS HRS2.out
        have hcm := come_any w.heap.size n D _ v3 all R w3 (rst_below HRS2.out hb3) (rd_owns ho3) hc64 (by omega) (by omega) (fun hne q hq => by
          have h1 := (ho3.lt q hq).1
          exact ⟨by omega, by omega, fun h => by have := (HRS2.out.2.2.2.2.lt q h).2; omega⟩)
        have HCE : Hid (∀ e w', ComeEnd w.heap.size n all R w3 e w' → e = .returned (.tuple #[]) ∧ ∃ v' D' n', Hid (RSt w.heap.size n' D' v' (comeL all R) w') ∧ n' ≤ n + 4 ∧ Below w.heap.size w w') := fun e w' h => by
          obtain ⟨h1, v', D', n', h2, h3, h4⟩ := h
          exact ⟨h1, v', D', n', h2, by omega, hbl2.trans ((hb3.mono hbl2.size).trans h4)⟩
        have hlen : Hid (k + 1 ≤ (comeL all R).length ∧ (comeL all R).length ≤ 1049776) := by
          have h1 := iinv_len HNX.out
          obtain ⟨rr, h2⟩ := come_pre R all
          exact ⟨by rw [h2, List.length_append]; omega, by omega⟩
        obtain ⟨A1, hA1⟩ : ∃ A1, A1 = comeL all R := ⟨_, rfl⟩
        rw [← hA1] at HCE hlen HNX
        obtain ⟨a3, c3, hv3⟩ := owns_slice ho3
        subst hv3
        clear hA1 hb3 ho3 hbl2 HRS2
        go_wp2_with fail
        refine hcm.mono ?_
        intro e w4 he
        obtain ⟨rfl, v4, D4, n4, HRS4, hn4, hbl4⟩ := HCE.out e w4 he
        clear he HCE hcm
        go_wp2
        go_roundw
        case rel => exact ⟨k + 1, n4, A1, v4, D4, hlen.out.1, by go_num, by omega, hlen.out.2, HRS4, HNX, hbl4⟩
        case measure => simp [intOf]; omega
    · have HIS := Lib.hid (iinv_end hii.out (by omega))
      have hkE : k = all.length := by omega
      have hkI : ¬ (k : Int) < (all.length : Int) := by omega
      have r5b : wr.ownsRow (w.heap.size + 3) 2 1 (.slice ao all.length cap) all.length (cellsInt64S all) := r5
      rcases r5b.2 with ⟨hv, h0⟩ | ⟨g, c2, cur, hv, hB, hg, hc, hm, hz, ht⟩
      · simp only [Value.slice.injEq] at hv
        obtain ⟨rfl, _, rfl⟩ := hv
        have hE : all = [] := List.eq_nil_of_length_eq_zero h0
        subst hE
        have hso := sort_none none 0 wr
        have HIS2 : Hid (IsReach (stO l) roots []) := by
          show IsReach _ _ _
          simpa using HIS.out
        clear r1 r2 r3 r4 r5 r5b hrs hii HIS
        go_wp2_with fail
        refine hso.mono ?_
        rintro e w5 ⟨rfl, rfl⟩
        clear hso
        go_wp2
        go_ret
        exact ⟨_, [], rfl, HIS2.out, World.ownsRow_nil _ _ _ _, hbl⟩
      · simp only [Value.slice.injEq] at hv
        obtain ⟨rfl, _, rfl⟩ := hv
        have hgl := (Array.getElem?_eq_some_iff.1 hg).1
        have ht2 : cur.toList.take all.length = all.map (Value.int .i64) := by simpa using ht
        have hso := sort_ints g 0 cap all wr (holds_of_blockI hg ht2) hgl (by omega)
        have HO : Hid (∀ n os, ((Go.Sort.grow (Go.Sort.putRow (Value.int .i64) (Go.Sort.ahead wr n) g 0 (all.mergeSort fun x y => decide (x ≤ y)).toArray) os).cell? ⟨w.heap.size, 0, none⟩ = some (.slice (some ⟨g, 0, none⟩) all.length cap)) ∧ ReachEnd (IsReach (stO l) roots) w (.returned (.slice (some ⟨g, 0, none⟩) all.length cap)) (Go.Sort.grow (Go.Sort.putRow (Value.int .i64) (Go.Sort.ahead wr n) g 0 (all.mergeSort fun x y => decide (x ≤ y)).toArray) os)) := fun n os => by
          have hgr := grownBy_sortedI (w := wr) (g := g) (n := n) (os := os) (all.mergeSort fun x y => decide (x ≤ y)).toArray
          have hl2 : (all.mergeSort fun x y => decide (x ≤ y)).length = all.length := List.length_mergeSort ..
          refine ⟨?_, _, _, rfl, HIS.out, ?_, hbl.grown hgr hbl.size (fun j e => by have := Option.some.inj e; omega)⟩
          · rw [cell_of_row _ w.heap.size 0 _ _ (0, 0) ((hgr.block w.heap.size (by have := telB_ltS hrs.out; omega) (fun e => by have := Option.some.inj e; omega)).trans r1)]; rfl
          · rw [hl2]
            exact ownsRow_sortedI hl2 (by omega) hg hc hm hz
        clear r1 r2 r3 r4 r5 r5b hrs hii HIS ht ht2 hg hz
        have hso2 : Calls Tryz.prog 55 #[.slice (some ⟨g, 0, none⟩) all.length cap] wr fun e w' => e = .returned (.tuple #[]) ∧ w'.cell? ⟨w.heap.size, 0, none⟩ = some (.slice (some ⟨g, 0, none⟩) all.length cap) ∧ Hid (ReachEnd (IsReach (stO l) roots) w (.returned (.slice (some ⟨g, 0, none⟩) all.length cap)) w') := by
          refine hso.mono ?_
          rintro e w5 ⟨rfl, n5, os, rfl⟩
          exact ⟨rfl, HO.out n5 os⟩
        obtain ⟨na, hna⟩ : ∃ na, na = all.length := ⟨_, rfl⟩
        rw [← hna] at cbs hso2 hkI
        clear HO hso hc hm hB hgl hal hn hna
        go_wp2_with fail
        refine hso2.mono ?_
        rintro e w5 ⟨rfl, c5, HE⟩
        clear hso2
        go_wp2
        go_ret
        exact HE.out
set_option maxRecDepth 100000 in
theorem implReach_any (va vd : Value) (l : List Bl) (roots : List Int) (w : World) (ha : RdB w va l) (hd : Rd w vd (cellsInt64S roots)) (hdw : ∀ d ∈ roots, -9223372036854775808 ≤ d ∧ d ≤ 9223372036854775807) (hl : l.length ≤ 1048576) (hs : ∀ p ∈ l, p.2.size ≤ 1048576) (hld : roots.length ≤ 1048576) :
    Calls Tryz.prog 6 #[va, vd] w (ReachEnd (ReachIs l roots) w) := by
  have hso := implStoreOk_any va l w ha hl hs
  cases hok : storeB l with
  | false =>
    rw [hok] at hso
    obtain ⟨aa, ca, rfl⟩ := rdB_shape ha
    obtain ⟨ar, cr, rfl⟩ : ∃ ar cr, vd = .slice ar (cellsInt64S roots).length cr := by
      obtain ⟨ar, cr, h, _⟩ := hd
      exact ⟨ar, cr, h⟩
    generalize l.length = n at hso ⊢
    generalize (cellsInt64S roots).length = m
    clear ha hd hs
    go_enter Tryz.func6, Tryz.ntmps6
    go_wp2_with fail
    refine hso.mono ?_
    rintro e w1 ⟨rfl, hb1⟩
    clear hso
    go_wp2
    go_ret
    exact ⟨_, [], rfl, Or.inl ⟨hok, rfl⟩, World.ownsRow_nil _ _ _ _, hb1⟩
  | true =>
    rw [hok] at hso
    have hl3 := (storeB_iff.1 hok).1
    have hr := (storeB_iff.1 hok).2.2
    have HC := Lib.hid (fun (W : World) (h : Below w.heap.size w W) => reachOf_any va vd l roots W (rdB_below ha h) (rd_below hd h) hdw hl3 hs hr hld)
    obtain ⟨aa, ca, rfl⟩ := rdB_shape ha
    obtain ⟨ar, cr, rfl⟩ : ∃ ar cr, vd = .slice ar (cellsInt64S roots).length cr := by
      obtain ⟨ar, cr, h, _⟩ := hd
      exact ⟨ar, cr, h⟩
    obtain ⟨n, hn⟩ : ∃ n, n = l.length := ⟨_, rfl⟩
    rw [← hn] at hso HC ⊢
    generalize (cellsInt64S roots).length = m at HC ⊢
    clear ha hd hs hn hl hl3
    go_enter Tryz.func6, Tryz.ntmps6
    go_wp2_with fail
    refine hso.mono ?_
    rintro e w1 ⟨rfl, hb1⟩
    have hc := HC.out w1 hb1
    clear hso HC
    go_wp2_with fail
    refine hc.mono ?_
    rintro e w2 ⟨v, out, rfl, hR, ho, hb2⟩
    have HB := Lib.hid (hb1.trans (hb2.mono hb1.size))
    have HO := Lib.hid (owns_base ho hb1.size)
    have HR := Lib.hid hR
    clear hc hb1 hb2 ho hR
    go_wp2
    go_ret
    exact ⟨v, out, rfl, Or.inr ⟨hok, HR.out⟩, HO.out, HB.out⟩
end Go.Proofs.YtdiammehnakchacGreat
