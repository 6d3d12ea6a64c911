/- CONTRACTS: the program's Ranks, Winner. -/
import Derived.Test.YtidmaaglfckcbapDoorScoF
import Derived.Test.YtidmaaglfckcbapDoorSog
import Derived.Test.YtidmaaglfckcbapDoorQue
import Derived.Lib.Hide
namespace Go.Proofs.YtidmaaglfckcbapDoor
open Go.Shelf Go.RowKit
set_option linter.unusedVariables false
/-- a node and its score -/
abbrev scD (k x : Int) : Dt := (scoT x k, x)
abbrev leA (x y : Dt) : Bool := !(ltOf agI) y x
theorem any_sc (k : Int) (l : List Int) (x : Int) : ((l.map (scD k)).any fun y : Dt => decide (y = scD k x)) = decide (x ∈ l) := by
  by_cases h : x ∈ l
  · rw [decide_eq_true h]
    exact List.any_eq_true.2 ⟨scD k x, List.mem_map_of_mem h, by simp⟩
  · rw [decide_eq_false h]
    apply List.any_eq_false.2
    intro y hy
    obtain ⟨z, hz, rfl⟩ := List.mem_map.1 hy
    simp only [decide_eq_true_eq, scD, Prod.mk.injEq, not_and]
    intro _ e
    exact h (e ▸ hz)
theorem rd_oneI (w : World) (x : Int) : Rd (w.alloc (.cells #[.int .i64 x] 2)) (.slice (some ⟨w.heap.size, 0, none⟩) 1 1) (cellsInt64S [x]) :=
  rd_owns (World.ownsRow_lit (base := w.heap.size) (e := 2) (size := 1) w #[.int .i64 x] 1 (Nat.le_refl _) (by decide) rfl)
theorem leA_iff (x y : Dt) : leA x y = true ↔ ¬ (x.1 < y.1 ∨ (y.1 = x.1 ∧ y.2 < x.2)) := by
  show (!(ltOf agI) y x) = true ↔ _
  rw [ltOf_ag]
  simp
  omega
theorem ranks_sorted {l : List Int} {k : Int} (h : NodesK l k) : ((l.map (scD k)).mergeSort leA).map Prod.snd = ranksT l k := by
  refine ranks_same ⟨?_, ?_⟩ (ranksT_is h)
  · have h1 := ((l.map (scD k)).mergeSort_perm leA).map Prod.snd
    rw [List.map_map] at h1
    have e : (Prod.snd ∘ scD k) = id := rfl
    rwa [e, List.map_id] at h1
  · have h1 : ((l.map (scD k)).mergeSort leA).Pairwise (fun a b => leA a b = true) := List.pairwise_mergeSort (fun a b c h1 h2 => by rw [leA_iff] at *; omega) (fun a b => by
      cases e : leA a b with
      | true => rfl
      | false =>
        have h2 : leA b a = true := by
          have h3 : ¬ leA a b = true := by rw [e]; decide
          rw [leA_iff] at h3 ⊢
          omega
        rw [h2]; rfl) _
    have hp := (l.map (scD k)).mergeSort_perm leA
    have hd : ((l.map (scD k)).mergeSort leA).Pairwise (fun a b => a.2 ≠ b.2) := by
      have h2 : (l.map (scD k)).Pairwise (fun a b => a.2 ≠ b.2) := List.pairwise_map.2 h.1.2.2
      exact (hp.pairwise_iff (fun h => fun e => h e.symm)).2 h2
    have hm : ∀ z ∈ (l.map (scD k)).mergeSort leA, z.1 = scoT z.2 k := fun z hz => by
      obtain ⟨x, _, rfl⟩ := List.mem_map.1 (hp.mem_iff.1 hz)
      rfl
    rw [List.pairwise_map]
    refine List.Pairwise.imp_of_mem (fun {a b} ha hb hab => ?_) (h1.and hd)
    have h2 := (leA_iff a b).1 hab.1
    have h3 := hab.2
    show scoT b.2 k < scoT a.2 k ∨ (scoT a.2 k = scoT b.2 k ∧ a.2 < b.2)
    rw [← hm a ha, ← hm b hb]
    omega
/-- the library's sort over a row that the call has built -/
theorem sortSc_any (B : Nat) (v : Value) (l : List Dt) (w : World) (ho : OwnG dtf 2 33 w B v l) (hBw : B ≤ w.heap.size) (hl : l.length ≤ 1048576) :
    Calls Tryd.prog 17 #[v, .func (.func 18) #[] #[]] w fun e w' => e = .returned (.tuple #[]) ∧ OwnG dtf 2 33 w' B v (l.mergeSort leA) ∧ ∀ W : World, Below B W w → Below B W w' := by
  have h0 := ho
  rcases ownG_cases dtW ho with ⟨rfl, rfl⟩ | ⟨g, cap, cur, rfl, hg, hlt, hn, hm, hh, hs, ht, _⟩
  · refine (sof_none none 0 _ w).mono ?_
    rintro e w' ⟨rfl, rfl⟩
    exact ⟨rfl, by simpa using h0, fun W h => h⟩
  · refine (sof_any l g cap w (holdsK_ownG dtW h0) hlt (by omega)).mono ?_
    rintro e w' ⟨rfl, n, os, rfl⟩
    exact ⟨rfl, ownG_sorted dtW (List.length_mergeSort l) h0, fun W h => h.grown (grownBy_sortedK _) hBw (fun k hk => by cases hk; exact hg)⟩
theorem step_ownSc {ops : Array Oper} {rest : List Oper} {o : Oper} {a : Act} {w : World} {Q : Exit → Act → World → Prop} (hgd : o.guard = none) (s x : Operand)
    (ho : o.op = .call { callee := .builtin .append, args := #[s, x], argTypes := #[31, 31] })
    (B : Nat) (v u : Value) (xs ys : List Dt) (hs : a.eval s = v) (hx : a.eval x = u) (h : OwnG dtf 2 33 w B v xs) (hu : RdG dtf 2 w u ys) (hl : xs.length + ys.length ≤ 16777216) (hB : B ≤ w.heap.size)
    (hK : ∀ v' w', OwnG dtf 2 33 w' B v' (xs ++ ys) → w.grownBy w' v.ownBlock → (∀ q, v'.ownBlock = some q → v.ownBlock = some q ∨ w.heap.size ≤ q) → wpList Tryd.prog ops Q rest (a.put o.dst v') w') : wpList Tryd.prog ops Q (o :: rest) a w :=
  own_stepG (scY.ty dtW) dtW hgd s x ho B v u xs ys hs hx h hu hl hB hK
set_option maxHeartbeats 8000000 in
set_option maxRecDepth 100000 in
theorem implRanks_any (va : Value) (l : List Int) (key : Int) (w : World) (htab : TabP w) (ha : Rd w va (cellsInt64S l)) (hl : l.length ≤ 1048576) (hk9 : key ≤ 9223372036854775807) (hin : ∀ x ∈ l, x ≤ 9223372036854775807) :
    Calls Tryd.prog 10 #[va, .int .i64 key] w fun e w' => ∃ v, e = .returned v ∧ w'.ownsRow w.heap.size 2 1 v (ranksT l key).length (cellsInt64S (ranksT l key)) ∧ Below w.heap.size w w' := by
  have hla : (cellsInt64S l).length = l.length := by simp
  have HNIL : Hid (¬ NodesK l key → ranksT l key = []) := fun h => ranksT_no h
  by_cases hbig : 16 < l.length
  focus
    have HR := HNIL.out (fun h => by have := h.1.1.2; omega)
    rw [HR]
    obtain ⟨ao, cap, hv, _⟩ := ha
    rw [hla] at hv
    subst hv
    have hbI : (16 : Int) < (l.length : Int) := by omega
    clear htab HR HNIL hla
    go_enter Tryd.func10, Tryd.ntmps10
    go_wp2
    go_ret
    exact ⟨_, rfl, ⟨rfl, Or.inl ⟨rfl, rfl⟩⟩, Below.refl _ _⟩
  by_cases hk0 : key < 0
  focus
    have HR := HNIL.out (fun h => by have := h.2; omega)
    rw [HR]
    obtain ⟨ao, cap, hv, _⟩ := ha
    rw [hla] at hv
    subst hv
    have hbI : ¬ (16 : Int) < (l.length : Int) := by omega
    clear htab HR HNIL hla
    go_enter Tryd.func10, Tryd.ntmps10
    go_wp2
    go_ret
    exact ⟨_, rfl, ⟨rfl, Or.inl ⟨rfl, rfl⟩⟩, Below.refl _ _⟩
  obtain ⟨ao, cap, hv, hcap, hx⟩ := ha
  rw [hla] at hv hcap hx
  have HX : Hid (∀ j, j < l.length → ∃ b off, ao = some ⟨b, off, none⟩ ∧ b < w.heap.size ∧ w.cell? ⟨b, off + j, none⟩ = some (.int .i64 (l.getD j 0))) := fun j hj => by
    obtain ⟨b, off, h1, h2, h3⟩ := hx (by intro h; rw [h] at hla; simp at hla; omega)
    exact ⟨b, off, h1, h2, (h3 j hj).trans (ints_get _ l j hj)⟩
  have HNO : Hid (∀ i, i < l.length → ¬ ((0 ≤ l.getD i 0 ∧ l.getD i 0 ≤ 4611686018427387904) ∧ l.getD i 0 ∉ l.take i) → ranksT l key = []) := fun i hi h => HNIL.out fun g => nodes_no hi h g.1
  have HYES : Hid ((∀ i, i < l.length → ((0 ≤ l.getD i 0 ∧ l.getD i 0 ≤ 4611686018427387904) ∧ l.getD i 0 ∉ l.take i)) → ((l.map (scD key)).mergeSort leA).map Prod.snd = ranksT l key) := fun h => by
    by_cases h0 : l.length = 0
    · have e : l = [] := List.eq_nil_of_length_eq_zero h0
      rw [HNIL.out (fun g => by have := g.1.1.1; omega), e]
      simp
    · exact ranks_sorted ⟨nodes_yes ⟨by omega, by omega⟩ h, by omega⟩
  have HMS : Hid (∀ k, k ≤ l.length → ((l.take k).map (scD key)).length = k) := fun k hk => by rw [List.length_map, List.length_take]; omega
  have HTK : Hid (∀ j, j < l.length → (l.take (j + 1)).map (scD key) = (l.take j).map (scD key) ++ [(scoT (l.getD j 0) key, l.getD j 0)]) := fun j hj => by
    rw [List.take_succ_eq_append_getElem hj, getD_int hj, List.map_append]
    rfl
  have HANY : Hid (∀ k x, (((l.take k).map (scD key)).any fun y : Dt => decide (y = (scoT x key, x))) = decide (x ∈ l.take k)) := fun k x => any_sc key _ x
  have HALL : Hid ((l.take l.length).map (scD key) = l.map (scD key)) := by show _ = _; rw [List.take_length]
  have HLEN : Hid (((l.map (scD key)).mergeSort leA).length = (l.map (scD key)).length) := List.length_mergeSort _
  have HL0 : Hid ((l.map (scD key)).length = l.length) := List.length_map _
  have HTAB := Lib.hid htab
  have HIN : Hid (∀ j, j < l.length → l.getD j 0 ≤ 9223372036854775807) := fun j hj => by rw [getD_int hj]; exact hin _ (List.getElem_mem hj)
  obtain ⟨n, hn⟩ : ∃ n, n = l.length := ⟨_, rfl⟩
  rw [← hn] at hl hv HX HIN HNO HYES HMS HTK HALL HL0 hbig
  have hbI : ¬ (16 : Int) < (n : Int) := by omega
  have hkI : ¬ key < 0 := by omega
  generalize ranksT l key = R at HNIL HNO HYES ⊢
  have h16 : n ≤ 16 := by omega
  clear hn hx hla hcap HNIL htab hin
  subst hv
  go_enter Tryd.func10, Tryd.ntmps10
  go_wp2
  go_loopw [5, 21] (fun v5 v21 wr => ∃ (k : Nat) (H : List Dt), v21 = .int .i64 (k : Int) ∧ k ≤ n ∧ Hid (H.length = k) ∧ Hid (H = (l.take k).map (scD key)) ∧ Hid (∀ i, i < k → ((0 ≤ l.getD i 0 ∧ l.getD i 0 ≤ 4611686018427387904) ∧ l.getD i 0 ∉ l.take i)) ∧ OwnG dtf 2 33 wr w.heap.size v5 H ∧ Below w.heap.size w wr) (fun _ k _ => n - (intOf k).toNat)
  case atStart => exact ⟨0, [], rfl, Nat.zero_le _, rfl, rfl, (fun i hi => absurd hi (Nat.not_lt_zero _)), ownG_nil _ _ _, Below.refl _ _⟩
  case round =>
    rename World => wr
    obtain ⟨k, H, rfl, hk, hHl, hH, hok, ho, hb⟩ := hrel
    have hsb := hb.size
    obtain ⟨av, cv, hvv⟩ := ownG_shape ho
    subst hvv
    by_cases hltk : k < n
    · obtain ⟨b, off, rfl, hlt, hc⟩ := HX.out k hltk
      have d0 := (hb.cell (p := ⟨b, off + k, none⟩) hlt).trans hc
      have hNO := Lib.hid (HNO.out k hltk)
      have hany := HANY.out k (l.getD k 0)
      rw [← hH.out] at hany
      have HNX : Hid (H ++ [(scoT (l.getD k 0) key, l.getD k 0)] = (l.take (k + 1)).map (scD key)) := by show _ = _; rw [HTK.out k hltk, ← hH.out]
      have hnew : Hid (((0 ≤ l.getD k 0 ∧ l.getD k 0 ≤ 4611686018427387904) ∧ l.getD k 0 ∉ l.take k) → ∀ i, i < k + 1 → ((0 ≤ l.getD i 0 ∧ l.getD i 0 ≤ 4611686018427387904) ∧ l.getD i 0 ∉ l.take i)) := fun h i hi => by
        rcases Nat.lt_or_ge i k with g | g
        · exact hok.out i g
        · obtain rfl : i = k := by omega
          exact h
      have hMEM : Hid (l.getD k 0 ∈ l.take k ↔ l.getD k 0 ∈ l.take k) := Iff.rfl
      have hx9 := HIN.out k hltk
      obtain ⟨x, hx⟩ : ∃ x, x = l.getD k 0 := ⟨_, rfl⟩
      rw [← hx] at d0 hNO hnew hany HNX hx9
      have hltI : (k : Int) < (n : Int) := by omega
      have hsc := implScore_any x key wr (tab_below HTAB.out hb)
      clear hx hc hok hH hMEM
      by_cases hr : 0 ≤ x ∧ x ≤ 4611686018427387904
      · have hsc := hsc (by omega) hk9
        have hx0 : ¬ x < 0 := by omega
        have hx1 : ¬ 4611686018427387904 < x := by omega
        generalize scoT x key = s at hsc hany HNX
        have hcon := fun (W : World) (h : RdG dtf 2 W (.slice av H.length cv) H) => containsSc_any (.slice av H.length cv) H s x W h (by have := hHl.out; omega)
        rw [hany] at hcon
        have hoA := ho
        clear hany
        by_cases hm : x ∈ l.take k
        · rw [decide_eq_true hm] at hcon
          have HR := Lib.hid (hNO.out (fun h => h.2 hm))
          clear hNO hnew hm HNX
          go_wp2_with fail
          refine hsc.mono ?_
          rintro e w2 ⟨rfl, hb2⟩
          have ho2 := owns_below ho hb2
          have hB2 := hb.trans (hb2.mono hsb)
          have ho3 := ho2.alloc (.cells #[.int .i64 s, .int .i64 x] 33)
          have hB3 := hB2.alloc hB2.size (.cells #[.int .i64 s, .int .i64 x] 33)
          have hcall := hcon _ (rdG_owns dtW ho3)
          clear hsc hb2 ho ho2 hB2 hb ho3 hcon hoA
          go_wp2_with fail
          refine hcall.mono ?_
          rintro e w4 ⟨rfl, hb4⟩
          have HB := Lib.hid (hB3.trans (hb4.mono hB3.size))
          clear hcall hb4 hB3
          go_wp2
          go_ret
          exact ⟨_, rfl, by rw [HR.out]; exact ⟨rfl, Or.inl ⟨rfl, rfl⟩⟩, HB.out⟩
        · rw [decide_eq_false hm] at hcon
          have HN2 := Lib.hid (hnew.out ⟨hr, hm⟩)
          clear hNO hnew hm
          go_wp2_with fail
          refine hsc.mono ?_
          rintro e w2 ⟨rfl, hb2⟩
          have ho2 := owns_below ho hb2
          have hB2 := hb.trans (hb2.mono hsb)
          have ho3 := ho2.alloc (.cells #[.int .i64 s, .int .i64 x] 33)
          have hB3 := hB2.alloc hB2.size (.cells #[.int .i64 s, .int .i64 x] 33)
          have hbx := heap_alloc_new w2 (.cells #[.int .i64 s, .int .i64 x] 33)
          have hcall := hcon _ (rdG_owns dtW ho3)
          have hsz3 : w2.heap.size < (w2.alloc (.cells #[.int .i64 s, .int .i64 x] 33)).heap.size := by rw [World.size_alloc]; omega
          clear hsc hb2 ho ho2 hB2 hb hcon hoA
          go_wp2_with fail
          refine hcall.mono ?_
          rintro e w4 ⟨rfl, hb4⟩
          have hB4 := hB3.trans (hb4.mono hB3.size)
          have ho4 := owns_below ho3 hb4
          have hbx4 := (hb4.block w2.heap.size hsz3).trans hbx
          have c0 := cell_of_row w4 w2.heap.size 0 _ _ (0, 0) hbx4
          have c1 := cell_of_row w4 w2.heap.size 1 _ _ (0, 0) hbx4
          simp only [List.getElem?_toArray, List.getElem?_cons_zero, List.getElem?_cons_succ] at c0 c1
          have hs4 := hB4.size
          have hrq := rdG_one dtW w4 (s, x) 33
          have hoa := ho4.alloc (.cells #[.int .i64 s, .int .i64 x] 33)
          have hba := hB4.alloc hs4 (.cells #[.int .i64 s, .int .i64 x] 33)
          have hsA : w.heap.size ≤ (w4.alloc (.cells #[.int .i64 s, .int .i64 x] 33)).heap.size := by rw [World.size_alloc]; omega
          have hln : H.length + [(s, x)].length ≤ 16777216 := by have := hHl.out; rw [List.length_singleton]; omega
          clear hcall hb4 hB3 ho3 hbx hbx4 ho4 hB4
          go_wp2_with (at_builtin; refine step_ownSc rfl _ _ rfl w.heap.size _ (.slice (some ⟨w4.heap.size, 0, none⟩) 1 1) H [(s, x)] rfl rfl hoa hrq hln hsA ?_)
          intro v20 w20 ho20 hg20 hi20
          have HB20 := Lib.hid (hba.grown hg20 hsA (fun k hk => (hoa.lt k hk).1))
          have HO20 := Lib.hid ho20
          have hHl2 : Hid ((H ++ [(s, x)]).length = k + 1) := by show _ = _; rw [List.length_append, List.length_singleton, hHl.out]
          clear ho20 hg20 hi20 hoa hba hrq hln c0 c1
          go_wp2
          go_roundw
          case rel => exact ⟨k + 1, _, by go_num, by omega, hHl2, HNX, HN2, HO20.out, HB20.out⟩
          case measure => simp [intOf]; omega
      · have HR := Lib.hid (hNO.out (fun h => hr h.1))
        clear hNO hnew hany HNX
        have hsc := hsc hx9 hk9
        by_cases hx0 : x < 0
        · clear hr
          go_wp2_with fail
          refine hsc.mono ?_
          rintro e w2 ⟨rfl, hb2⟩
          have HB := Lib.hid ((hb.trans (hb2.mono hsb)).alloc (Nat.le_trans hsb hb2.size) (.cells #[.int .i64 (scoT x key), .int .i64 x] 33))
          clear hsc hb2 ho hb
          go_wp2
          go_ret
          exact ⟨_, rfl, by rw [HR.out]; exact ⟨rfl, Or.inl ⟨rfl, rfl⟩⟩, HB.out⟩
        · have hx1 : 4611686018427387904 < x := by omega
          clear hr
          go_wp2_with fail
          refine hsc.mono ?_
          rintro e w2 ⟨rfl, hb2⟩
          have HB := Lib.hid ((hb.trans (hb2.mono hsb)).alloc (Nat.le_trans hsb hb2.size) (.cells #[.int .i64 (scoT x key), .int .i64 x] 33))
          clear hsc hb2 ho hb
          go_wp2
          go_ret
          exact ⟨_, rfl, by rw [HR.out]; exact ⟨rfl, Or.inl ⟨rfl, rfl⟩⟩, HB.out⟩
    · obtain rfl : k = n := by omega
      have HF := Lib.hid (HYES.out hok.out)
      have e1 : H = l.map (scD key) := by rw [hH.out, HALL.out]
      have hHn := hHl.out
      clear hok hH HNO HYES HX HTK HANY HMS HIN HALL HL0 HTAB
      rw [← e1] at HF HLEN
      have hcall := sortSc_any w.heap.size _ H wr ho hsb (by omega)
      have hml := HLEN.out
      generalize H.mergeSort leA = M at HF HLEN hcall hml
      have hMn : M.length = k := by omega
      clear e1 HLEN hml ho
      have hsort := hcall
      rw [hHn]
      rw [hHn] at hsort
      clear hcall hHn hHl
      go_wp2_with fail
      refine hsort.mono ?_
      rintro e wS ⟨rfl, hoS, hB⟩
      have hBS := hB w hb
      have hsS := hBS.size
      have HRD : Hid (∀ j, j < M.length → ∀ W, Below wS.heap.size wS W → ∃ b off, av = some ⟨b, off, none⟩ ∧ W.cell? ⟨b, off + j * 2, none⟩ = some (.int .i64 (M.getD j dt0).1) ∧ W.cell? ⟨b, off + j * 2 + 1, none⟩ = some (.int .i64 (M.getD j dt0).2)) := fun j hj W hW => by
        rcases rdG_cases (rdG_owns dtW hoS) with ⟨h0, _⟩ | ⟨_, b, off, cap, hv, _, hlt, hc⟩
        · rw [h0] at hj; exact absurd hj (Nat.not_lt_zero _)
        · simp only [Value.slice.injEq] at hv
          exact ⟨b, off, hv.1, dt_cells (cellsG_below hc hlt hW) hj⟩
      have HTM : Hid (∀ j, j < M.length → (M.take (j + 1)).map Prod.snd = (M.take j).map Prod.snd ++ [(M.getD j dt0).2]) := fun j hj => by
        rw [List.take_succ_eq_append_getElem hj, List.map_append, getD_dt hj]
        rfl
      have HEND : Hid ((M.take M.length).map Prod.snd = R) := by show _ = _; rw [List.take_length]; exact HF.out
      have HLN : Hid (∀ j, ((M.take j).map Prod.snd).length ≤ j) := fun j => by rw [List.length_map, List.length_take]; omega
      rw [hMn] at HRD HTM HEND
      have HBS := Lib.hid hBS
      clear hsort hB hb hoS hMn HF hBS hsb
      go_wp2
      go_loopw [9, 50] (fun v9 v50 wr => ∃ (j : Nat), v50 = .int .i64 (j : Int) ∧ j ≤ k ∧ wr.ownsRow wS.heap.size 2 1 v9 ((M.take j).map Prod.snd).length (cellsInt64S ((M.take j).map Prod.snd)) ∧ Below wS.heap.size wS wr) (fun _ j _ => k - (intOf j).toNat)
      case atStart => exact ⟨0, rfl, Nat.zero_le _, ⟨rfl, Or.inl ⟨rfl, rfl⟩⟩, Below.refl _ _⟩
      case round =>
        rename World => wq
        obtain ⟨j, rfl, hj, hq, hbq⟩ := hrel
        have hsq := hbq.size
        obtain ⟨aq, cq, hvq⟩ := owns_slice hq
        subst hvq
        by_cases hltj : j < k
        · obtain ⟨b, off, rfl, c0, c1⟩ := HRD.out j hltj wq hbq
          have HTJ := Lib.hid (HTM.out j hltj)
          have hlj := HLN.out j
          generalize M.getD j dt0 = y at c0 c1 HTJ
          obtain ⟨y1, y2⟩ := y
          simp only at c0 c1 HTJ
          have hltJ : (j : Int) < (k : Int) := by omega
          generalize (M.take j).map Prod.snd = T at hq HTJ hlj
          have hqA := (hq.alloc (.cells #[.int .i64 y1, .int .i64 y2] 33)).alloc (.cells #[.int .i64 y2] 2)
          have hbA := (hbq.alloc hsq (.cells #[.int .i64 y1, .int .i64 y2] 33)).alloc (by rw [World.size_alloc]; omega) (.cells #[.int .i64 y2] 2)
          have hrq := rd_oneI (wq.alloc (.cells #[.int .i64 y1, .int .i64 y2] 33)) y2
          have hsA : wS.heap.size ≤ ((wq.alloc (.cells #[.int .i64 y1, .int .i64 y2] 33)).alloc (.cells #[.int .i64 y2] 2)).heap.size := hbA.size
          have hln : T.length + [y2].length ≤ 16777216 := by rw [List.length_singleton]; omega
          rw [World.size_alloc] at hrq
          clear hq hbq
          go_wp2_with (at_builtin; refine own_step rfl _ _ rfl wS.heap.size _ (.slice (some ⟨wq.heap.size + 1, 0, none⟩) 1 1) T [y2] rfl rfl hqA hrq hln hsA ?_)
          intro v20 w20 ho20 hg20 hi20
          have HB20 := Lib.hid (hbA.grown hg20 hsA (fun k hk => (hqA.lt k hk).1))
          have ho21 : w20.ownsRow wS.heap.size 2 1 v20 (T ++ [y2]).length (cellsInt64S (T ++ [y2])) := by simpa using ho20
          rw [← HTJ.out] at ho21
          have HO20 := Lib.hid ho21
          clear ho20 ho21 hg20 hi20 hqA hbA hrq hln c0 c1
          go_wp2
          go_roundw
          case rel => exact ⟨j + 1, by go_num, by omega, HO20.out, HB20.out⟩
          case measure => simp [intOf]; omega
        · obtain rfl : j = k := by omega
          rw [HEND.out] at hq
          have HO := Lib.hid (owns_base hq HBS.out.size)
          have HB := Lib.hid (HBS.out.trans (hbq.mono HBS.out.size))
          clear hq hbq
          rw [HEND.out]
          go_wp2
          go_ret
          exact ⟨_, rfl, HO.out, HB.out⟩
theorem implWinner_any (va : Value) (l : List Int) (key : Int) (w : World) (htab : TabP w) (ha : Rd w va (cellsInt64S l)) (hl : l.length ≤ 1048576) (hk9 : key ≤ 9223372036854775807) (hin : ∀ x ∈ l, x ≤ 9223372036854775807) :
    Calls Tryd.prog 7 #[va, .int .i64 key] w fun e w' => e = .returned (.int .i64 (winT l key)) ∧ Below w.heap.size w w' := by
  have hcall := implRanks_any va l key w htab ha hl hk9 hin
  have hW : winT l key = (ranksT l key).headD (-1) := rfl
  rw [hW]
  generalize ranksT l key = R at hcall ⊢
  clear ha htab hW
  cases R with
  | nil =>
    go_enter Tryd.func7, Tryd.ntmps7
    go_wp2_with fail
    refine hcall.mono ?_
    rintro e w2 ⟨v, rfl, ho, hb⟩
    obtain ⟨aq, cq, hvq⟩ := owns_slice ho
    have HB := Lib.hid hb
    subst hvq
    clear hcall ho hb
    go_wp2
    go_ret
    exact ⟨rfl, HB.out⟩
  | cons x t =>
    go_enter Tryd.func7, Tryd.ntmps7
    go_wp2_with fail
    refine hcall.mono ?_
    rintro e w2 ⟨v, rfl, ho, hb⟩
    have HB := Lib.hid hb
    obtain ⟨g, cq, rfl, _⟩ := owns_head ho (by simp)
    have c0 := ho.cellAt 0 (by simp)
    have hn : (x :: t).length = t.length + 1 := rfl
    simp only [hn] at c0 ⊢
    have c1 : w2.cell? ⟨g, 0, none⟩ = some (.int .i64 x) := c0
    have hne : ((t.length : Int) + 1 == 0) = false := by simp; omega
    clear hcall ho hb c0 hn
    go_wp2
    go_ret
    exact ⟨rfl, HB.out⟩
end Go.Proofs.YtidmaaglfckcbapDoor
