/- CONTRACTS: the program's below, toldOf, Told. -/
import Derived.Test.YtdiammehnakchabTreeT
import Derived.Test.YtdiammehnakchabTreeI
import Derived.Test.YtdiammehnakchabBlF
import Derived.Test.YtdiammehnakchabClone
import Derived.Test.YtdiammehnakchabSteps
namespace Go.Proofs.Ytdiammehnakchab
open Go.RowKit
set_option linter.unusedVariables false
/-- a telling at the block tb: of the store va, with the chunks so far -/
def TelB (tb : Nat) (va : Value) (out : List ByteArray) (w : World) : Prop :=
  ∃ v, w.heap[tb]? = some (.cells #[va, v] 192 (0, 0)) ∧ w.ownsRow (tb + 1) 9 1 v out.length (cellsS out)
theorem telB_lt {tb : Nat} {va : Value} {out : List ByteArray} {w : World} (h : TelB tb va out w) : tb < w.heap.size := by
  obtain ⟨v, h, _⟩ := h
  exact (Array.getElem?_eq_some_iff.1 h).1
theorem telB_below {tb : Nat} {va : Value} {out : List ByteArray} {w w' : World} (h : TelB tb va out w) (hb : Below w.heap.size w w') : TelB tb va out w' := by
  have hlt := telB_lt h
  obtain ⟨v, h1, h2⟩ := h
  exact ⟨v, (hb.block tb hlt).trans h1, owns_below h2 hb⟩
theorem one_string (w : World) (x : ByteArray) (t : TypeId) : ∀ j u, ([Value.string x] : List Value)[j]? = some u → (w.alloc (.cells #[Value.string x] t)).cell? ((⟨w.heap.size, 0, none⟩ : Addr).add j) = some u := by
  intro j u hj
  match j, hj with
  | 0, hj => simp at hj; subst hj; simp [Addr.add]
theorem keepI_set {w : World} {tb : Nat} {cur : Array Value} {fr : Nat × Nat} (h : w.heap[tb]? = some (.cells cur 192 fr)) (j : Nat) (x : Value) : KeepI w (w.setCell ⟨tb, j, none⟩ x) := fun k c f hk => by
  have hne : k ≠ tb := fun e => by
    subst e
    rw [h] at hk
    simp only [Option.some.injEq, Obj.cells.injEq] at hk
    exact absurd hk.2.1 (by decide)
  exact (Below.heap_setCell w ⟨tb, j, none⟩ x k hne).trans hk
theorem tel_fin {w0 w2 wc w3 : World} {va v v3 : Value} {out : List ByteArray} {t : ByteArray} {E : TypeId} (hbx : w2.heap[w0.heap.size]? = some (.cells #[va, v] 192 (0, 0))) (ho : w2.ownsRow (w0.heap.size + 1) 9 1 v out.length (cellsS out)) (hB : Below w0.heap.size w0 w2)
    (hbc : Below w2.heap.size w2 wc) (ho3 : w3.ownsRow (w0.heap.size + 1) 9 1 v3 (out.length + 1) (cellsS out ++ [.string t])) (hg3 : (wc.alloc (.cells #[.string t] E)).grownBy w3 v.ownBlock) :
    (∃ ao n' cap, v3 = .slice ao n' cap) ∧ w3.cell? ⟨w0.heap.size, 1, none⟩ = some v ∧ w3.frozen? ⟨w0.heap.size, 1, none⟩ = false ∧ TelB w0.heap.size va (out ++ [t]) (w3.setCell ⟨w0.heap.size, 1, none⟩ v3) ∧ Below w0.heap.size w0 (w3.setCell ⟨w0.heap.size, 1, none⟩ v3) ∧ KeepI w2 (w3.setCell ⟨w0.heap.size, 1, none⟩ v3) := by
  have hlt := (Array.getElem?_eq_some_iff.1 hbx).1
  have hne : v.ownBlock ≠ some w0.heap.size := fun e => by have := (ho.lt _ e).1; omega
  have hszc := hbc.size
  have hb1 : (wc.alloc (.cells #[.string t] E)).heap[w0.heap.size]? = some (.cells #[va, v] 192 (0, 0)) := (Below.heap_alloc wc _ _ (by omega)).trans ((hbc.block _ hlt).trans hbx)
  have hb2 := (hg3.block w0.heap.size (by rw [World.size_alloc]; omega) (fun e => hne e.symm)).trans hb1
  have hoc := (owns_below ho hbc).alloc (.cells #[.string t] E)
  have hbl : Below w0.heap.size w0 w3 := ((hB.trans (hbc.mono hB.size)).alloc (by have := hB.size; omega) _).grown hg3 (by rw [World.size_alloc]; have := hB.size; omega) (fun k hk => by have := (ho.lt k hk).1; omega)
  refine ⟨by rcases ho3.2 with ⟨rfl, _⟩ | ⟨g, cap, cur, rfl, _⟩ <;> exact ⟨_, _, _, rfl⟩, by rw [cell_of_row w3 w0.heap.size 1 _ _ (0, 0) hb2]; rfl, Lib.frozen_of_heap hb2 1, ⟨v3, by simp [World.setCell, Array.getElem?_modify, hb2], ?_⟩, hbl.setCell (p := ⟨w0.heap.size, 1, none⟩) (Nat.le_refl _) _, ?_⟩
  · have ho4 := ho3.kept (row := some w0.heap.size) (w' := w3.setCell ⟨w0.heap.size, 1, none⟩ v3) ⟨rfl, rfl, rfl, by simp [World.setCell], fun k _ hk => Below.heap_setCell _ _ _ _ (fun e => hk (by simp [e]))⟩ (Or.inr (fun e => by have := (ho3.lt _ e).1; omega))
    rw [List.length_append, List.length_singleton, cellsS, List.map_append]
    exact ho4
  · refine keepI_trans (keepI_below hbc) (keepI_trans (fun k c f hk => (Below.heap_alloc wc _ k (Array.getElem?_eq_some_iff.1 hk).1).trans hk) (keepI_trans (keepI_grown hoc hg3) (keepI_set hb2 1 v3)))
set_option maxHeartbeats 4000000 in
set_option maxRecDepth 100000 in
theorem below_tel (va : Value) (l : List Bl) (w0 : World) (ha : RdB w0 va l) (hl : l.length ≤ 1048576) (hs : ∀ p ∈ l, p.2.size ≤ 1048576) (hr : l.Pairwise (fun p q => p.1 < q.1)) : ∀ (n deep : Nat) (d : Int) (out : List ByteArray) (w : World), n + deep = 7 → Below w0.heap.size w0 w → TelB w0.heap.size va out w → out.length ≤ 64 →
    Calls Try.prog 171 #[.pointer (some ⟨w0.heap.size, 0, none⟩), .int .i64 d, .int .i64 (deep : Int)] w fun e w' => e = .returned (.bool (toldF (stOf l) n d out).isSome) ∧ (∀ o, toldF (stOf l) n d out = some o → TelB w0.heap.size va o w') ∧ Below w0.heap.size w0 w' ∧ KeepI w w' := by
  obtain ⟨i0, hi, hz0, hz1, hz2⟩ := info_parts Try.infoS
  intro n
  induction n with
  | zero =>
    intro deep d out w hn hb ht h64
    obtain rfl : deep = 7 := by omega
    have hpl := place_any va l d w (rdB_below ha hb) hl hr
    obtain ⟨v, hbx, ho⟩ := ht
    have c0 : w.cell? ⟨w0.heap.size, 0, none⟩ = some va := by rw [cell_of_row w w0.heap.size 0 _ _ (0, 0) hbx]; rfl
    have HTR : Hid (toldF (stOf l) 0 d out = none) := rfl
    generalize toldF (stOf l) 0 d out = R at HTR ⊢
    have hR := HTR.out
    subst hR
    obtain ⟨ao, cap, rfl⟩ := rdB_shape ha
    generalize l.length = n0 at hpl c0 hbx ⊢
    have HPL : Hid (∀ k fd, Plc l d k fd → True) := fun _ _ _ => trivial
    clear ha ho hbx
    go_enter Try.func171, Try.ntmps171
    go_wp2_with fail
    refine hpl.mono ?_
    rintro e w1 ⟨k, fd, rfl, _, hb1⟩
    have HB := Lib.hid (hb.trans (hb1.mono hb.size))
    have HK := Lib.hid (keepI_below hb1)
    clear hpl c0 hb hb1
    cases fd with
    | true =>
      go_wp2
      go_ret
      exact ⟨rfl, (fun o h => by cases h), HB.out, HK.out⟩
    | false =>
      go_wp2
      go_ret
      exact ⟨rfl, (fun o h => by cases h), HB.out, HK.out⟩
  | succ n ih =>
    intro deep d out w hn hb ht h64
    have hra := rdB_below ha hb
    have hpl := place_any va l d w hra hl hr
    have hdI : ¬ (6 : Int) < (deep : Int) := by omega
    have HT := Lib.hid ht
    have c0 : w.cell? ⟨w0.heap.size, 0, none⟩ = some va := by
      obtain ⟨v, hbx, _⟩ := ht
      rw [cell_of_row w w0.heap.size 0 _ _ (0, 0) hbx]; rfl
    obtain ⟨R, hR⟩ : ∃ R, R = toldF (stOf l) (n + 1) d out := ⟨_, rfl⟩
    have HR := Lib.hid hR
    rw [← hR]
    clear ht hR
    have HNO : Hid (∀ k, Plc l d k false → R = none) := fun k h => by
      rw [HR.out]
      exact told_none n out (by unfold stOf; rw [plc_no hr h]; rfl)
    obtain ⟨ao, cap, hva⟩ := rdB_shape ha
    have HRA : Hid (∀ k, k < l.length → ∃ b off, ao = some ⟨b, off, none⟩ ∧ b < w.heap.size ∧ w.cell? ⟨b, off + k * 2 + 1, none⟩ = some (.string (l.getD k bl0).2)) := fun k hk => by
      rcases rdB_cases hra with ⟨h0, _⟩ | ⟨_, b, off, c, hv, _, hlt, hc⟩
      · subst h0; exact absurd hk (Nat.not_lt_zero _)
      · rw [hva] at hv
        simp only [Value.slice.injEq] at hv
        exact ⟨b, off, hv.1, hlt, (hc k hk).2⟩
    obtain ⟨N, hN⟩ : ∃ N, N = l.length := ⟨_, rfl⟩
    have HLN := Lib.hid hN
    rw [← hN] at hva HRA
    have IH : Hid (∀ (d : Int) (out : List ByteArray) (w : World), Below w0.heap.size w0 w → TelB w0.heap.size va out w → out.length ≤ 64 → Calls Try.prog 171 #[.pointer (some ⟨w0.heap.size, 0, none⟩), .int .i64 d, .int .i64 ((deep : Int) + 1)] w fun e w' => e = .returned (.bool (toldF (stOf l) n d out).isSome) ∧ (∀ o, toldF (stOf l) n d out = some o → TelB w0.heap.size va o w') ∧ Below w0.heap.size w0 w' ∧ KeepI w w') := fun d out w h1 h2 h3 => ih (deep + 1) d out w (by omega) h1 h2 h3
    have HLEN : Hid (∀ d (out o : List ByteArray), out.length ≤ 64 → toldF (stOf l) n d out = some o → o.length ≤ 64) := fun d out o h1 h2 => told_len n d out o h1 h2
    have HSZ : Hid (∀ k, k < N → (l.getD k bl0).2.size ≤ 1048576) := fun k hk => by
      rw [hN] at hk
      rw [getD_at hk]; exact hs _ (List.getElem_mem hk)
    subst hva
    have HSL : Hid (∀ (w1 : World), Below w.heap.size w w1 → w1.cell? ⟨w0.heap.size, 0, none⟩ = some (.slice ao N cap)) := fun w1 h => by
      obtain ⟨v, hbx, _⟩ := telB_below HT.out h
      rw [cell_of_row w1 w0.heap.size 0 _ _ (0, 0) hbx]; rfl
    have a1 := asLeaf_yes
    have a2 := asLeaf_no
    have a3 := asLeaf_nil
    have a4 := asBranch_yes
    have a5 := asBranch_no
    have a6 := asBranch_nil
    clear hra hN ih ha
    go_enter Try.func171, Try.ntmps171
    go_wp2_with fail
    refine hpl.mono ?_
    rintro e w1 ⟨k, fd, rfl, hplc, hb1⟩
    have hB1 := hb.trans (hb1.mono hb.size)
    have HK1 := Lib.hid (keepI_below hb1)
    clear hpl c0 hb
    cases fd with
    | false =>
      have hR := HNO.out k hplc
      subst hR
      clear hplc hb1
      go_wp2
      go_ret
      exact ⟨rfl, (fun o h => by cases h), hB1, HK1.out⟩
    | true =>
      obtain ⟨hk, _, hfb⟩ := plc_yes hplc
      have hst : stOf l d = some (l.getD k bl0).2 := by unfold stOf; rw [hfb]; rfl
      rw [← HLN.out] at hk
      obtain ⟨b, off, rfl, hlt, hcc⟩ := HRA.out k hk
      have c0 := HSL.out w1 hb1
      have c1 := (hb1.cell (p := ⟨b, off + k * 2 + 1, none⟩) hlt).trans hcc
      have hsz := HSZ.out k hk
      have ht1 := telB_below HT.out hb1
      obtain ⟨s, hse⟩ : ∃ s, s = (l.getD k bl0).2 := ⟨_, rfl⟩
      rw [← hse] at hst c1 hsz
      have hnode := nodeOf_any s w1 hsz
      have hkI : (k : Int) < (N : Int) := by omega
      have HTR : Hid (R = toldF (stOf l) (n + 1) d out) := HR.out
      have HST := Lib.hid hst
      clear hplc hfb hst hcc hse HR HNO HRA HSZ HSL HT
      go_wp2_with fail
      refine hnode.mono ?_
      rintro e w2 ⟨nv, rfl, hnv, hb2⟩
      have hB2 := hB1.trans (hb2.mono hB1.size)
      have HK2 := Lib.hid (keepI_trans HK1.out (keepI_below hb2))
      have ht2 := telB_below ht1 hb2
      clear hnode c0 c1 ht1 hB1 HK1 hb1
      rcases hnv with ⟨hc, rfl⟩ | ⟨hc, rfl⟩ | ⟨ds, u, hc, hok, rfl, hou⟩
      · have hR : R = none := by rw [HTR.out]; exact told_neither n out HST.out hc
        subst hR
        clear hc ht2 HTR HST IH HLEN
        go_wp2
        go_ret
        exact ⟨rfl, (fun o h => by cases h), hB2, HK2.out⟩
      · obtain ⟨hp, hh, hck⟩ := leaf_head hc
        have hRt : R = if out.length < 64 then some (out ++ [s.extract 1 s.size]) else none := by rw [HTR.out, told_leaf n out HST.out hc, hck]
        obtain ⟨t, ht⟩ : ∃ t, t = s.extract 1 s.size := ⟨_, rfl⟩
        have htz : t.size ≤ 1048576 := by rw [ht, ByteArray.size_extract]; omega
        rw [← ht] at hRt ⊢
        obtain ⟨v, hbx, ho⟩ := ht2
        obtain ⟨a9, c9, hv9⟩ : ∃ a9 c9, v = .slice a9 out.length c9 := by
          rcases ho.2 with ⟨h1, h2⟩ | ⟨g, cap, cur, h1, _⟩
          · exact ⟨none, 0, by rw [h1, h2]⟩
          · exact ⟨_, _, h1⟩
        subst hv9
        have c1 : w2.cell? ⟨w0.heap.size, 1, none⟩ = some (.slice a9 out.length c9) := by rw [cell_of_row w2 w0.heap.size 1 _ _ (0, 0) hbx]; rfl
        clear hc hp hh hck ht HTR HST IH HLEN
        by_cases h6 : out.length < 64
        · rw [if_pos h6] at hRt
          subst hRt
          have h6I : ((out.length : Int) == 64) = false := by simp; omega
          have HF := Lib.hid (fun (wc w3 : World) (v3 : Value) (hbc : Below w2.heap.size w2 wc) (ho3 : w3.ownsRow (w0.heap.size + 1) 9 1 v3 (out.length + 1) (cellsS out ++ [.string t])) (hg3 : (wc.alloc (.cells #[.string t] 9)).grownBy w3 (Value.slice a9 out.length c9).ownBlock) => tel_fin hbx ho hB2 hbc ho3 hg3)
          have HO := Lib.hid ho
          have hs2 := hB2.size
          have hlt2 := (Array.getElem?_eq_some_iff.1 hbx).1
          have HC1 : Hid (∀ wc, Below w2.heap.size w2 wc → wc.cell? ⟨w0.heap.size, 1, none⟩ = some (.slice a9 out.length c9)) := fun wc h => by
            rw [cell_of_row wc w0.heap.size 1 _ _ (0, 0) ((h.block _ hlt2).trans hbx)]; rfl
          have hcl := fun (wc : World) => clone_any t wc (by omega)
          have hBd : Below w2.heap.size w2 w2.drew := (Below.refl _ _).drew
          have cd := HC1.out _ hBd
          have hol : out.length ≤ 64 := h64
          obtain ⟨ol, hole⟩ : ∃ ol, ol = out.length := ⟨_, rfl⟩
          obtain ⟨CO, hCO⟩ : ∃ CO, CO = cellsS out := ⟨_, rfl⟩
          rw [← hole] at h6I HF HO HC1 c1 cd hol
          rw [← hCO] at HF HO
          clear ho hbx hole hCO h6 h64
          go_wp2
          go_region_law (first
            | (refine step_append_own rfl (.tmp 50) (.tmp 53) 44 rfl (w0.heap.size + 1) 9 i0 (.string ⟨#[]⟩) 1 16 Try.underlying44 hi hz0 hz1 hz2 rfl (by decide) (.slice a9 ol c9) ol CO (by simp [Act.eval]) (World.ownsRow.alloc (owns_below HO.out hbc2) _) ⟨wc.heap.size, 0, none⟩ 1 1 [.string t] (by simp [Act.eval]) rfl (one_string wc t _) (fun u hu => by rw [List.mem_singleton.1 hu]; rfl) (by unfold maxLen; omega) (by omega) (by rw [World.size_alloc]; have := hbc2.size; omega) ?_; intro v3 w3 ho3 hg3; obtain ⟨⟨ao3, n3, cap3, rfl⟩, hcc, hff, hTel, hBel, hKee⟩ := HF.out wc w3 v3 hbc2 ho3 hg3; have HTel := Lib.hid hTel; have HBel := Lib.hid hBel; have HKee := Lib.hid hKee; clear ho3 hg3 hTel hBel hKee)
            | (go_simp; go_at_call 165; refine (hcl _).mono ?_; rintro e wc ⟨rfl, hbc⟩; have hbc2 : Below w2.heap.size w2 wc := hBd.trans hbc; have cc := HC1.out wc hbc2; have ca := HC1.out _ (hbc2.alloc hbc2.size (.cells #[.string t] 9))))
          all_goals
            go_wp2
            go_ret
            exact ⟨rfl, (fun o h => by obtain rfl := Option.some.inj h; exact HTel.out), HBel.out, keepI_trans HK2.out HKee.out⟩
        · rw [if_neg h6] at hRt
          subst hRt
          have h6I : out.length = 64 := by omega
          rw [h6I] at c1
          clear ho hbx
          go_wp2
          go_ret
          exact ⟨rfl, (fun o h => by cases h), hB2, HK2.out⟩
      · have hd0 : ds ≠ [] := fun e => by rw [e] at hok; exact absurd hok.1 (by simp)
        have hd4 : ds.length ≤ 4 := hok.2.1
        have hRb : R = ds.foldlM (fun o e => toldF (stOf l) n e o) out := by rw [HTR.out]; exact told_branch n out HST.out hc hd0
        have HB0 := Lib.hid hRb
        have HST1 : Hid (∀ k (acc : List ByteArray), k < ds.length → (∀ x, toldF (stOf l) n (ds.getD k 0) acc = some x → (ds.drop k).foldlM (fun o e => toldF (stOf l) n e o) acc = (ds.drop (k + 1)).foldlM (fun o e => toldF (stOf l) n e o) x) ∧ (toldF (stOf l) n (ds.getD k 0) acc = none → (ds.drop k).foldlM (fun o e => toldF (stOf l) n e o) acc = none)) := fun k acc hk => by
          have e : ds.drop k = ds.getD k 0 :: ds.drop (k + 1) := by
            rw [List.drop_eq_getElem_cons hk]
            simp [List.getD, hk]
          rw [e, List.foldlM_cons]
          exact ⟨fun x hx => by rw [hx]; rfl, fun hx => by rw [hx]; rfl⟩
        have HEND : Hid (∀ acc : List ByteArray, (ds.drop ds.length).foldlM (fun o e => toldF (stOf l) n e o) acc = some acc) := fun acc => by rw [List.drop_length]; rfl
        obtain ⟨G, hG⟩ : ∃ G : Nat → List ByteArray → Option (List ByteArray), G = fun k acc => (ds.drop k).foldlM (fun o e => toldF (stOf l) n e o) acc := ⟨_, rfl⟩
        have HST2 : Hid (∀ k (acc : List ByteArray), k < ds.length → (∀ x, toldF (stOf l) n (ds.getD k 0) acc = some x → G k acc = G (k + 1) x) ∧ (toldF (stOf l) n (ds.getD k 0) acc = none → G k acc = none)) := by rw [hG]; exact HST1.out
        have HEND2 : Hid (∀ acc : List ByteArray, G ds.length acc = some acc) := by rw [hG]; exact HEND.out
        have HS2 : Hid (R = G 0 out) := by rw [hG]; exact HB0.out
        have hdl : (cellsInt64S ds).length = ds.length := by simp
        obtain ⟨m, hm⟩ : ∃ m, m = ds.length := ⟨_, rfl⟩
        have HM : Hid (m = ds.length) := hm
        rw [← hm] at HST2 HEND2 hd4 hou
        obtain ⟨a2', c2', hv2⟩ : ∃ a2' c2', u = .slice a2' m c2' := by
          rcases hou.2 with ⟨h1, h2⟩ | ⟨g, cap, cur, h1, _⟩
          · exact ⟨none, 0, by rw [h1, h2]⟩
          · exact ⟨_, _, h1⟩
        subst hv2
        have HDS := Lib.hid hou
        clear hc hRb HB0 HST1 HEND hG hd0 hm hou hok HTR HST hdl
        go_wp2
        go_loopw [62] (fun i wr => ∃ (k : Nat) (acc : List ByteArray), k ≤ m ∧ i = .int .i64 k ∧ acc.length ≤ 64 ∧ TelB w0.heap.size (.slice (some ⟨b, off, none⟩) N cap) acc wr ∧ Hid (R = G k acc) ∧ Below w0.heap.size w0 wr ∧ Hid (KeepI w2 wr)) (fun i _ => m - (intOf i).toNat)
        case atStart => exact ⟨0, out, Nat.zero_le _, rfl, h64, ht2, HS2, hB2, keepI_refl _⟩
        case round =>
          rename World => wr
          obtain ⟨j, acc, hj, rfl, hal, htr, hrr, hbr, hkr⟩ := hrel
          clear hB2 ht2
          by_cases hltj : j < m
          · have hdr := keepI_owns HDS.out hkr.out
            have hjd : j < ds.length := by have := HM.out; omega
            obtain ⟨g2, cap2, hvv, hg2⟩ := owns_headI hdr (by omega)
            obtain ⟨rfl, rfl⟩ := hvv
            have c0 := (hdr.cellAt j (by omega)).trans (ints_get .i64 ds j hjd)
            obtain ⟨hyes, hno⟩ := HST2.out j acc hltj
            obtain ⟨x, hx⟩ : ∃ x, x = ds.getD j 0 := ⟨_, rfl⟩
            rw [← hx] at c0 hyes hno
            have hcall := IH.out x acc wr hbr htr hal
            have hlen := fun o => HLEN.out x acc o hal
            have HYES := Lib.hid hyes
            have HNO := Lib.hid hno
            have HLN2 := Lib.hid hlen
            clear hx hyes hno hlen hdr htr
            generalize toldF (stOf l) n x acc = Q at hcall HYES HNO HLN2
            go_wp2_with fail
            refine hcall.mono ?_
            rintro e w4 ⟨rfl, hof, hb4, hk4⟩
            have HK4 := Lib.hid (keepI_trans hkr.out hk4)
            clear hcall hk4 hkr hbr c0
            cases Q with
            | none =>
              have hR := hrr.out.trans (HNO.out rfl)
              subst hR
              clear hof HYES HNO HLN2 hrr
              go_wp2
              go_ret
              exact ⟨rfl, (fun o h => by cases h), hb4, keepI_trans HK2.out HK4.out⟩
            | some y =>
              have hR := Lib.hid (hrr.out.trans (HYES.out y rfl))
              have hy := HLN2.out y rfl
              have ht4 := hof y rfl
              clear hof HYES HNO HLN2 hrr
              go_wp2
              go_roundw
              case rel => exact ⟨j + 1, y, by omega, by go_num, hy, ht4, hR, hb4, HK4⟩
              case measure => simp [intOf]; omega
          · obtain rfl : j = m := by omega
            have hR := hrr.out.trans (HEND2.out acc)
            subst hR
            clear hrr
            go_wp2
            go_ret
            exact ⟨rfl, (fun o h => by obtain rfl := Option.some.inj h; exact htr), hbr, keepI_trans HK2.out hkr.out⟩
theorem toldOf_any (va : Value) (l : List Bl) (root : Int) (w : World) (ha : RdB w va l) (hl : l.length ≤ 1048576) (hs : ∀ p ∈ l, p.2.size ≤ 1048576) (hr : l.Pairwise (fun p q => p.1 < q.1)) :
    Calls Try.prog 137 #[va, .int .i64 root] w (ToldEnd (toldF (stOf l) 7 root []) w) := by
  have hbx := heap_alloc_new w (.cells #[va, .slice none 0 0] 192)
  have hB : Below w.heap.size w (w.alloc (.cells #[va, .slice none 0 0] 192)) := (Below.refl _ _).alloc (Nat.le_refl _) _
  have ht : TelB w.heap.size va [] (w.alloc (.cells #[va, .slice none 0 0] 192)) := ⟨_, hbx, World.ownsRow_nil _ _ _ _⟩
  have hcall := below_tel va l w ha hl hs hr 7 0 root [] _ rfl hB ht (by simp)
  generalize toldF (stOf l) 7 root [] = R at hcall ⊢
  obtain ⟨ao, cap, rfl⟩ := rdB_shape ha
  generalize l.length = n at hcall ⊢
  clear ha ht hbx hB
  go_enter Try.func137, Try.ntmps137
  go_wp2_with fail
  refine hcall.mono ?_
  rintro e w1 ⟨rfl, hof, hb1, _⟩
  clear hcall
  cases R with
  | none =>
    clear hof
    go_wp2
    go_ret2
    exact toldEnd_none (World.ownsRow_nil _ _ _ _) hb1
  | some o =>
    obtain ⟨v, hbx, ho⟩ := hof o rfl
    have c1 : w1.cell? ⟨w.heap.size, 1, none⟩ = some v := by rw [cell_of_row w1 w.heap.size 1 _ _ (0, 0) hbx]; rfl
    have ho2 := owns_base ho (b' := w.heap.size) (by omega)
    have HO := Lib.hid ho2
    clear hof hbx ho ho2
    go_wp2
    go_ret2
    exact toldEnd_some HO.out hb1
theorem implTold_any (va : Value) (l : List Bl) (root : Int) (w : World) (ha : RdB w va l) (hl : l.length ≤ 1048576) (hs : ∀ p ∈ l, p.2.size ≤ 1048576) :
    Calls Try.prog 65 #[va, .int .i64 root] w (ToldEnd (toldT l root) w) := by
  have hso := implStoreOk_any va l w ha hl hs
  cases hok : storeB l with
  | false =>
    have e : toldT l root = none := by unfold toldT; rw [hok]; rfl
    rw [e]
    rw [hok] at hso
    obtain ⟨ao, cap, rfl⟩ := rdB_shape ha
    generalize l.length = n at hso ⊢
    clear ha hs hok e
    go_enter Try.func65, Try.ntmps65
    go_wp2_with fail
    refine hso.mono ?_
    rintro e w1 ⟨rfl, hb1⟩
    clear hso
    go_wp2
    go_ret2
    exact toldEnd_none (World.ownsRow_nil _ _ _ _) hb1
  | true =>
    have e : toldT l root = toldF (stOf l) 7 root [] := by unfold toldT; rw [if_pos hok]
    have hr := (storeB_iff.1 hok).2.2
    have hcall := fun W (h : RdB W va l) => toldOf_any va l root W h hl hs hr
    rw [← e] at hcall
    rw [hok] at hso
    have HRD := Lib.hid (fun w1 (h : Below w.heap.size w w1) => rdB_below ha h)
    obtain ⟨ao, cap, rfl⟩ := rdB_shape ha
    have HCALL := Lib.hid (fun w1 (h : Below w.heap.size w w1) => hcall w1 (HRD.out w1 h))
    generalize toldT l root = R at HCALL ⊢
    generalize l.length = n at hso HCALL ⊢
    clear ha hs hok e hcall HRD hr
    go_enter Try.func65, Try.ntmps65
    go_wp2_with fail
    refine hso.mono ?_
    rintro e w1 ⟨rfl, hb1⟩
    have hc2 := HCALL.out w1 hb1
    clear hso HCALL
    go_wp2_with fail
    refine hc2.mono ?_
    rintro e w2 ⟨v, rfl, ho, hb2⟩
    have HO := Lib.hid (owns_base ho hb1.size)
    have HB := Lib.hid (hb1.trans (hb2.mono hb1.size))
    clear hc2 ho hb2 hb1
    go_wp2
    go_ret2
    exact ⟨v, rfl, HO.out, HB.out⟩
end Go.Proofs.Ytdiammehnakchab
