/- CONTRACTS: the program's misses (for a way whose leaves lets go the first least one), Lru, Fifo. -/
import Derived.Test.YthcjfjgaajjoaanHandM
import Derived.Test.YthcjfjgaajjoaanHandD
import Derived.Test.YthcjfjgaajjoaanBelT
namespace Go.Proofs.Ythcjfjgaajjoaan
open Go.RowKit
set_option linter.unusedVariables false
/-- 'calls[k:]' -/
theorem cut_from (ao : Option Addr) (n cap k : Nat) (hk : k ≤ n) : ∃ u, ∀ W : World, (Instr.slice 32 (.slice ao n cap) (some (.int .i64 (k : Int))) none none).run Try.prog W = .ok u W := by
  refine ⟨sliced ao k n cap 1, fun W => ?_⟩
  rw [run_slice_l W 32 _ n cap (by rw [elemI8]; exact Try.underlying32) .i64 _ (by omega) (by omega), elemI8, sizeI8]
  simp [Result.andThen]
set_option maxHeartbeats 4000000 in
set_option maxRecDepth 100000 in
theorem misses_any (key : Hl → Int) (way : Value)
    (hlv : ∀ (B : Nat) (v vc : Value) (l : List Hl) (W : World), OwnH W B v l → l.length ≤ 1048576 → 0 < l.length → Calls Try.prog 42 #[v, way, vc] W fun e W' => e = .returned (.int .i64 (leastK key l l.length : Int)) ∧ Below W.heap.size W W')
    (va : Value) (c : List Int) (r : Int) (w : World) (ha : Rd w va (cellsInt64S c)) :
    Calls Try.prog 34 #[va, .int .i64 r, way] w fun e w' => e = .returned (.int .i64 (if okR c r then (missP key r.toNat c 0 [] : Int) else -1)) ∧ Below w.heap.size w w' := by
  have hla : (cellsInt64S c).length = c.length := by simp
  obtain ⟨ao, cap, hv, hcap, hx⟩ := ha
  rw [hla] at hv hcap hx
  subst hv
  have HX : Hid (∀ j, j < c.length → ∃ b off, ao = some ⟨b, off, none⟩ ∧ b < w.heap.size ∧ w.cell? ⟨b, off + j, none⟩ = some (.int .i64 (c.getD j 0))) := fun j hj => by
    obtain ⟨b, off, h1, h2, h3⟩ := hx (by intro h; rw [h] at hla; simp at hla; omega)
    exact ⟨b, off, h1, h2, (h3 j hj).trans (ints_get _ c j hj)⟩
  clear hx hla
  by_cases hl : 60 < c.length
  focus
    have e : (if okR c r then (missP key r.toNat c 0 [] : Int) else -1) = -1 := by rw [if_neg]; unfold okR; omega
    rw [e]
    have hI : (60 : Int) < (c.length : Int) := by omega
    clear e HX hlv
    go_enter Try.func34, Try.ntmps34
    go_wp2
    go_ret
    exact ⟨rfl, Below.refl _ _⟩
  have hI : ¬ (60 : Int) < (c.length : Int) := by omega
  by_cases hr1 : r < 1
  focus
    have e : (if okR c r then (missP key r.toNat c 0 [] : Int) else -1) = -1 := by rw [if_neg]; unfold okR; omega
    rw [e]
    clear e HX hlv
    go_enter Try.func34, Try.ntmps34
    go_wp2
    go_ret
    exact ⟨rfl, Below.refl _ _⟩
  by_cases hr2 : 20 < r
  focus
    have e : (if okR c r then (missP key r.toNat c 0 [] : Int) else -1) = -1 := by rw [if_neg]; unfold okR; omega
    rw [e]
    clear e HX hlv
    go_enter Try.func34, Try.ntmps34
    go_wp2
    go_ret
    exact ⟨rfl, Below.refl _ _⟩
  have e : (if okR c r then (missP key r.toNat c 0 [] : Int) else -1) = (missP key r.toNat c 0 [] : Int) := by rw [if_pos]; unfold okR; omega
  rw [e]
  clear e
  obtain ⟨room, hroom⟩ : ∃ m : Nat, r = m := ⟨r.toNat, by omega⟩
  have hrt : r.toNat = room := by omega
  rw [hrt]
  obtain ⟨i0, hi0, hz0, hz1, hz2⟩ := info_parts Try.infoHl
  have H0 : Hid (missP key room (c.drop 0) 0 [] + 0 = missP key room c 0 []) := rfl
  have HEND : Hid (∀ N, missP key room (c.drop c.length) c.length N = 0) := fun N => by rw [List.drop_length]; rfl
  have HSTEP : Hid (∀ k N, k < c.length → missP key room (c.drop k) k N = if 0 ≤ placeL (c.getD k 0) N 0 then missP key room (c.drop (k + 1)) (k + 1) (againP N (c.getD k 0) k) else missP key room (c.drop (k + 1)) (k + 1) (moreP key room N (c.getD k 0) k) + 1) := fun k N hk => by
    rw [drop_at hk]
    rfl
  generalize hMP : missP key room = MP at H0 HEND HSTEP ⊢
  clear hMP hrt
  have HCUT := Lib.hid (fun k (hk : k ≤ c.length) => cut_from ao c.length cap k hk)
  generalize MP c 0 [] = R at H0 ⊢
  obtain ⟨n, hn⟩ : ∃ n, n = c.length := ⟨_, rfl⟩
  rw [← hn] at hl hI HX HEND HSTEP HCUT hcap ⊢
  clear hn
  have hR1 : 1 ≤ room := by omega
  have hR2 : room ≤ 20 := by omega
  go_enter Try.func34, Try.ntmps34
  go_wp2
  go_loopw [7, 8, 26] (fun v ms i wr => ∃ (k m : Nat) (N : List Hl), k ≤ n ∧ m ≤ k ∧ i = .int .i64 k ∧ ms = .int .i64 m ∧ N.length ≤ room ∧ Hid (MP (c.drop k) k N + m = R) ∧ OwnH wr w.heap.size v N ∧ Below w.heap.size w wr) (fun _ _ i _ => n - (intOf i).toNat)
  case atStart => exact ⟨0, 0, [], Nat.zero_le _, Nat.zero_le _, rfl, rfl, Nat.zero_le _, H0, ⟨rfl, Or.inl ⟨rfl, rfl⟩⟩, Below.refl _ _⟩
  case round =>
    rename World => wr
    obtain ⟨k, m, N, hk, hm, rfl, rfl, hNl, hR, ho, hb⟩ := hrel
    clear H0
    have hsb := hb.size
    by_cases hlt : k < n
    rotate_left
    · have HR : Hid (R = m) := by
        have h9 := hR.out
        rw [show k = n by omega, HEND.out] at h9
        show R = m
        omega
      obtain ⟨av, cv, hvv⟩ := ownH_shape ho
      subst hvv
      clear hR HEND HSTEP ho
      go_wp2
      go_ret
      exact ⟨by rw [HR.out]; rfl, hb⟩
    obtain ⟨b, off, hao, hbl, hc0⟩ := HX.out k hlt
    have c0 := (hb.cell (p := ⟨b, off + k, none⟩) hbl).trans hc0
    have hst := HSTEP.out k N hlt
    obtain ⟨q, hq⟩ : ∃ q, q = c.getD k 0 := ⟨_, rfl⟩
    rw [← hq] at c0 hst
    have hpl := place_any w.heap.size _ N q wr ho (by omega)
    clear hq hc0
    obtain ⟨ucut, hcut⟩ := HCUT.out (k + 1) (by omega)
    have hkc : ((k + 1 : Nat) : Int) = (k : Int) + 1 := rfl
    rw [hkc] at hcut
    by_cases hp : 0 ≤ placeL q N 0
    · rw [if_pos hp] at hst
      obtain ⟨j, hj, hjq, hpj, heq⟩ := again_at (i := k) hp
      have HM2 : Hid (MP (c.drop (k + 1)) (k + 1) (againP N q k) + m = R) := by show _ = _; rw [← hst]; exact hR.out
      have HLN : Hid ((againP N q k).length ≤ room) := by show _ ≤ _; rw [againP_len]; exact hNl
      rw [hpj] at hpl
      have hset := hlC_set N j (k : Int) hj
      rw [hjq, ← heq] at hset
      rcases ownH_cases ho with ⟨rfl, _⟩ | ⟨g, gc, cur, rfl, hBg, hg, _, _, _, _, _, hcs⟩
      · exact absurd hj (Nat.not_lt_zero _)
      subst hao
      have hjI : (j : Int) < (N.length : Int) := by omega
      clear HSTEP HCUT hcut HEND HX hR hst hp hpj hjq heq hcs
      go_wp2_with fail
      refine hpl.mono ?_
      rintro e w2 ⟨rfl, hb2⟩
      have ho2 := owns_below ho hb2
      have f2 := ho2.frozenAt (j * 3 + 2)
      have hlN := hlC_len N
      have k2 := ho2.cellAt (j * 3 + 2) (by omega)
      rw [(hlC_get N j hj).2.2] at k2
      obtain ⟨hs2, hg2⟩ := ho2.stored (j * 3 + 2) (.int .i64 (k : Int))
      rw [hset] at hs2
      have HO2 : Hid (OwnH (w2.setCell ⟨g, j * 3 + 2, none⟩ (.int .i64 (k : Int))) w.heap.size (.slice (some ⟨g, 0, none⟩) N.length gc) (againP N q k)) := by
        show World.ownsRow _ _ _ _ _ _ _
        rw [againP_len]; exact hs2
      have hB2 := hb.trans (hb2.mono hsb)
      have HB2 := Lib.hid (hB2.grown hg2 hB2.size (fun k hk => by cases hk; exact hBg))
      clear hpl hs2 hg2 hB2 hset ho ho2 hb hb2 hlN
      go_wp2
      go_roundw
      case rel => exact ⟨k + 1, m, _, by omega, by omega, by go_num, rfl, HLN.out, HM2.out, HO2.out, HB2.out⟩
      case measure => simp [intOf]; omega
    · rw [if_neg hp] at hst
      have HM2 : Hid (MP (c.drop (k + 1)) (k + 1) (moreP key room N q k) + ((m + 1 : Nat)) = R) := by
        have h9 := hR.out
        rw [hst] at h9
        show _ = _
        omega
      have HLN : Hid ((moreP key room N q k).length ≤ room) := moreP_len hNl
      have hpneg : placeL q N 0 < 0 := by omega
      generalize placeL q N 0 = P at hpl hp hpneg
      have hmore : moreP key room N q k = if room < (N ++ [(q, (k : Int), (k : Int))]).length then (N ++ [(q, (k : Int), (k : Int))]).eraseIdx (leastK key (N ++ [(q, (k : Int), (k : Int))]) (N ++ [(q, (k : Int), (k : Int))]).length) else N ++ [(q, (k : Int), (k : Int))] := rfl
      generalize moreP key room N q k = N2 at HM2 HLN hmore
      have hN1l : (N ++ [(q, (k : Int), (k : Int))]).length = N.length + 1 := by simp
      have hN1c : hlC N ++ hlC [(q, (k : Int), (k : Int))] = hlC (N ++ [(q, (k : Int), (k : Int))]) := (hlC_append _ _).symm
      generalize N ++ [(q, (k : Int), (k : Int))] = N1 at hmore hN1l hN1c
      subst hao
      clear HSTEP HEND HX hR hst HCUT
      obtain ⟨nl, hnl⟩ : ∃ nl, nl = N.length := ⟨_, rfl⟩
      obtain ⟨av, cv, hvv⟩ := ownH_shape ho
      rw [OwnH, ← hnl] at ho
      rw [← hnl] at hN1l hNl hvv
      subst hvv
      have HNL := Lib.hid hnl
      have HN1c := Lib.hid hN1c
      have HN1l := Lib.hid hN1l
      clear hnl hN1c hN1l
      go_wp2_with fail
      refine hpl.mono ?_
      rintro e w2 ⟨rfl, hb2⟩
      have ho2 := owns_below ho hb2
      have hB2 := hb.trans (hb2.mono hsb)
      have hs2 := hB2.size
      have hnw : ∀ j u, (hlC [(q, (k : Int), (k : Int))])[j]? = some u → (w2.alloc (.cells #[.int .i64 q, .int .i64 (k : Int), .int .i64 (k : Int)] 78)).cell? ((⟨w2.heap.size, 0, none⟩ : Addr).add j) = some u := fun j u hu => by
        rw [Addr.add_lit, Nat.zero_add, cell_of_row _ w2.heap.size j _ _ (0, 0) (heap_alloc_new w2 (.cells #[.int .i64 q, .int .i64 (k : Int), .int .i64 (k : Int)] 78))]
        rw [← Array.getElem?_toList]
        exact hu
      have hoA := ho2.alloc (.cells #[.int .i64 q, .int .i64 (k : Int), .int .i64 (k : Int)] 78)
      have hBA := hB2.alloc hs2 (.cells #[.int .i64 q, .int .i64 (k : Int), .int .i64 (k : Int)] 78)
      have hsA : w.heap.size ≤ (w2.alloc (.cells #[.int .i64 q, .int .i64 (k : Int), .int .i64 (k : Int)] 78)).heap.size := by rw [World.size_alloc]; omega
      clear hpl ho ho2 hb hb2 hB2
      go_wp2_with (at_builtin; refine wpList_append_own _ rfl _ _ 75 rfl w.heap.size 78 i0 (.agg #[.int .i64 0, .int .i64 0, .int .i64 0]) 3 24 Try.underlying75 hi0 hz0 hz1 hz2 rfl (by decide) _ _ _ rfl hoA ⟨w2.heap.size, 0, none⟩ 1 1 (hlC [(q, (k : Int), (k : Int))]) rfl rfl hnw (hlC_oneCell _) (by unfold maxLen; omega) (by omega) hsA ?_)
      intro v5 w5 ho5 hg5 _
      have hN1l := HN1l.out
      rw [HN1c.out] at ho5
      have hB5 := hBA.grown hg5 hsA (fun k hk => (hoA.lt k hk).1)
      have hs5 := hB5.size
      rw [← hN1l] at ho5
      clear hg5 hoA hBA hsA hnw hs2
      by_cases hov : room < N1.length
      · rw [if_pos hov] at hmore
        have hgl : leastK key N1 N1.length < N1.length := leastK_lt _ _ (by omega)
        have hcall := hlv w.heap.size v5 ucut N1 w5 ho5 (by omega) (by omega)
        obtain ⟨gi, hgi⟩ : ∃ gi, gi = leastK key N1 N1.length := ⟨_, rfl⟩
        rw [← hgi] at hcall hgl hmore
        have hdel := fun w' (h : Below w5.heap.size w5 w') => deleteH_any w.heap.size v5 N1 gi w' (owns_below ho5 h) (by omega) hgl
        obtain ⟨a5, c5, hv5⟩ := ownH_shape ho5
        have hovI : (room : Int) < ((nl : Int) + 1) := by omega
        have hg60 : gi ≤ 60 := by omega
        subst hv5
        have hB5g : ∀ k, (Value.slice a5 N1.length c5).ownBlock = some k → w.heap.size ≤ k := fun k hk => (ho5.lt k hk).1
        rw [hN1l] at hcall hdel hB5g
        have HN2 : Hid (N1.eraseIdx gi = N2) := hmore.symm
        have hgI : (0 : Int) ≤ (gi : Int) := by omega
        rw [hN1l]
        clear hmore hgi ho5 hlv hov hN1l
        go_wp2_with fail
        refine hcall.mono ?_
        rintro e w6 ⟨rfl, hb6⟩
        have hd6 := hdel w6 hb6
        have hB6 := hB5.trans (hb6.mono hs5)
        clear hcall hdel hB5 hb6
        go_wp2_with fail
        refine hd6.mono ?_
        rintro e w7 ⟨v7, rfl, ho7, _, hg7⟩
        rw [HN2.out] at ho7
        have HB7 := Lib.hid (hB6.grown hg7 hB6.size hB5g)
        have HO7 := Lib.hid ho7
        clear hd6 ho7 hg7 hB6
        go_wp2
        go_roundw
        case rel => exact ⟨k + 1, m + 1, _, by omega, by omega, by go_num, by go_num, HLN.out, HM2.out, HO7.out, HB7.out⟩
        case measure => simp [intOf]; omega
      · rw [if_neg hov] at hmore
        obtain ⟨a5, c5, hv5⟩ := ownH_shape ho5
        have hovI : ¬ (room : Int) < ((nl : Int) + 1) := by omega
        subst hv5
        have HO5 : Hid (OwnH w5 w.heap.size (.slice a5 (nl + 1) c5) N2) := by rw [hmore, ← hN1l]; exact ho5
        have HB5 := Lib.hid hB5
        have e9 : N1.length = nl + 1 := hN1l
        rw [e9]
        clear ho5 hB5 hlv hov hmore hcut hN1l e9
        go_wp2
        go_roundw
        case rel => exact ⟨k + 1, m + 1, N2, by omega, by omega, by go_num, by go_num, HLN.out, HM2.out, HO5.out, HB5.out⟩
        case measure => simp [intOf]; omega
theorem implLru_any (va : Value) (c : List Int) (r : Int) (w : World) (ha : Rd w va (cellsInt64S c)) :
    Calls Try.prog 17 #[va, .int .i64 r] w fun e w' => e = .returned (.int .i64 (missR 0 c r)) ∧ Below w.heap.size w w' := by
  have hcall := misses_any keyLru (.iface 58 (.agg #[])) leaves_lru va c r w ha
  have e : (if okR c r then (missP keyLru r.toNat c 0 [] : Int) else -1) = missR 0 c r := by
    unfold missR
    by_cases h : okR c r
    · rw [if_pos h, if_pos h, missP_lru0 (by have := h.2.1; omega)]
    · rw [if_neg h, if_neg h]
  rw [e] at hcall
  generalize missR 0 c r = R at hcall ⊢
  clear ha e
  go_enter Try.func17, Try.ntmps17
  go_wp2_with fail
  refine hcall.mono ?_
  rintro e w2 ⟨rfl, hb⟩
  go_wp2
  go_ret
  exact ⟨rfl, hb⟩
theorem implFifo_any (va : Value) (c : List Int) (r : Int) (w : World) (ha : Rd w va (cellsInt64S c)) :
    Calls Try.prog 20 #[va, .int .i64 r] w fun e w' => e = .returned (.int .i64 (missR 1 c r)) ∧ Below w.heap.size w w' := by
  have hcall := misses_any keyFifo (.iface 59 (.agg #[])) leaves_fifo va c r w ha
  have e : (if okR c r then (missP keyFifo r.toNat c 0 [] : Int) else -1) = missR 1 c r := by
    unfold missR
    by_cases h : okR c r
    · rw [if_pos h, if_pos h, missP_fifo0 (by have := h.2.1; omega)]
    · rw [if_neg h, if_neg h]
  rw [e] at hcall
  generalize missR 1 c r = R at hcall ⊢
  clear ha e
  go_enter Try.func20, Try.ntmps20
  go_wp2_with fail
  refine hcall.mono ?_
  rintro e w2 ⟨rfl, hb⟩
  go_wp2
  go_ret
  exact ⟨rfl, hb⟩
end Go.Proofs.Ythcjfjgaajjoaan
