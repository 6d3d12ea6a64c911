/- CONTRACT: the specification's Grown. -/
import Derived.Test.YtdiammehnakchacGreatTreeS
import Derived.Test.YtdiammehnakchacGreatOneT
import Derived.Test.YtdiammehnakchacGreatClashes
import Derived.Deep.LoopGhost
namespace Go.Proofs.YtdiammehnakchacGreat
open Go.RowKit
set_option linter.unusedVariables false
theorem owns_apart {w w' : World} {b1 b2 : Nat} {e1 e2 : TypeId} {s1 s2 : Nat} {v u : Value} {n m : Nat} {xs ys : List Value} (h : w.ownsRow b1 e1 s1 v n xs) (k : w.ownsRow b2 e2 s2 u m ys) (hne : e1 ≠ e2) (hg : w.grownBy w' u.ownBlock) : w'.ownsRow b1 e1 s1 v n xs :=
  owns_grown h hg fun g hk hv => by
    rcases h.2 with ⟨rfl, _⟩ | ⟨g1, c1, cur1, rfl, _, hh1, _⟩
    · cases hv
    · rcases k.2 with ⟨rfl, _⟩ | ⟨g2, c2, cur2, rfl, _, hh2, _⟩
      · cases hk
      · obtain rfl : g1 = g := Option.some.inj hv
        obtain rfl : g2 = g1 := Option.some.inj hk
        rw [hh1] at hh2
        simp only [Option.some.injEq, Obj.cells.injEq] at hh2
        exact hne hh2.2.1
theorem by4_at {α : Type} : ∀ (n : Nat) (l : List α) (k : Nat), l.length ≤ n → 4 * k < l.length → (by4 n l)[k]? = some ((l.drop (4 * k)).take 4)
  | 0, l, k, h, hk => by omega
  | n + 1, l, k, h, hk => by
    have hl : l ≠ [] := fun e => by rw [e] at hk; simp at hk
    rw [by4_cons n hl]
    cases k with
    | zero => simp
    | succ k =>
      rw [List.getElem?_cons_succ, by4_at n (l.drop 4) k (by rw [List.length_drop]; have := List.length_pos_iff.2 hl; omega) (by rw [List.length_drop]; omega), List.drop_drop]
      congr 3
      omega
theorem upT_at {ds : List Int} {k : Nat} (hk : 4 * k < ds.length) : (upT ds)[k]? = some (brT ((ds.drop (4 * k)).take 4)) := by
  unfold upT
  rw [List.getElem?_map, by4_at _ _ _ (Nat.le_refl _) hk]
  rfl
theorem above_len : ∀ (n : Nat) (A : List ByteArray), (above n A).1.length ≤ 2 * A.length
  | 0, A => Nat.zero_le _
  | n + 1, A => by
    by_cases h : A.length ≤ 1
    · rw [above_low n h]; exact Nat.zero_le _
    · rw [above_high n (by omega)]
      have h2 := above_len n (upT (dgs A))
      rw [List.length_append]
      have h3 := upT_len (dgs A)
      have h4 : (dgs A).length = A.length := by simp [dgs]
      rw [h4] at h3
      omega
theorem l1Min_any (a b : Int) (w : World) : Calls Tryz.prog 67 #[.int .i64 a, .int .i64 b] w fun e w' => e = .returned (.int .i64 (if a < b then a else b)) ∧ w' = w := by
  by_cases h : a < b
  · rw [if_pos h]
    go_enter Tryz.func67, Tryz.ntmps67
    go_wp2
    go_ret
    exact ⟨rfl, rfl⟩
  · rw [if_neg h]
    go_enter Tryz.func67, Tryz.ntmps67
    go_wp2
    go_ret
    exact ⟨rfl, rfl⟩
/-- 'row[i:j]' of a row of numbers -/
theorem rd_sub {w : World} {g n cap : Nat} {xs : List Int} (h : Rd w (.slice (some ⟨g, 0, none⟩) n cap) (cellsInt64S xs)) (hn : xs.length = n) (hcap : n ≤ cap) (hc : cap ≤ maxLen) (a b : Nat) (hab : a < b) (hb : b ≤ n) :
    ∃ u, (∀ W : World, (Instr.slice 25 (.slice (some ⟨g, 0, none⟩) n cap) (some (.int .i64 (a : Int))) (some (.int .i64 (b : Int))) none).run Tryz.prog W = .ok u W) ∧ ∀ w', Below w.heap.size w w' → Rd w' u (cellsInt64S ((xs.drop a).take (b - a))) := by
  obtain ⟨i0, hi, hz0, hz1, hz2⟩ := info_parts Tryz.info64
  have hel : Tryz.prog.elem 25 = 2 := by kernel_rfl
  have hsz : ∀ W : World, (sizeOf 2).run Tryz.prog W = .ok 1 W := fun W => by simp [sizeOf, typeInfo, hi, hz1]
  have hla : (cellsInt64S xs).length = n := by simpa using hn
  have hlb : (cellsInt64S ((xs.drop a).take (b - a))).length = b - a := by simp; omega
  obtain ⟨ao, c2, hv, hc2, hx⟩ := h
  rw [hla] at hv hc2 hx
  simp only [Value.slice.injEq, true_and] at hv
  obtain ⟨rfl, rfl⟩ := hv
  obtain ⟨g', off', he, hlt, hcell⟩ := hx (fun e => by rw [e] at hla; simp at hla; omega)
  simp only [Option.some.injEq, Addr.mk.injEq, and_true] at he
  obtain ⟨rfl, rfl⟩ := he
  refine ⟨.slice (some ⟨g, a, none⟩) (b - a) (cap - a), fun W => ?_, fun w' hb' => ?_⟩
  · rw [run_slice_lh W 25 _ n cap (by rw [hel]; exact Tryz.underlying25) .i64 .i64 _ _ (by omega) (by omega) (by omega), hel, hsz]
    have e : sliced (some (⟨g, 0, none⟩ : Addr)) ((a : Int)).toNat ((b : Int)).toNat cap 1 = .slice (some ⟨g, a, none⟩) (b - a) (cap - a) := by
      unfold sliced
      rw [Int.toNat_natCast, Int.toNat_natCast, if_neg (by omega)]
      simp only [Option.map_some, Addr.add_lit, Nat.zero_add, Nat.mul_one]
    show Result.ok (sliced (some (⟨g, 0, none⟩ : Addr)) ((a : Int)).toNat ((b : Int)).toNat cap 1) W = _
    rw [e]
  · refine ⟨_, cap - a, by rw [hlb], by rw [hlb]; omega, fun _ => ⟨g, a, rfl, Nat.lt_of_lt_of_le hlt hb'.size, fun j hj => ?_⟩⟩
    rw [hlb] at hj
    have h2 := hcell (a + j) (by omega)
    rw [Nat.zero_add] at h2
    rw [hb'.cell (p := ⟨g, a + j, none⟩) hlt, h2]
    simp [List.getElem?_drop, show j < b - a by omega]
theorem brT_31 {ds : List Int} : (brT ds).size ≤ 31 := by
  unfold brT
  rw [asB_size]
  by_cases h : okBr ds
  · rw [brL_ok h, List.length_cons]
    have := numsB_30 h.2.1
    rw [asB_size] at this
    omega
  · rw [brL_no h]
    exact Nat.zero_le _
set_option maxHeartbeats 4000000 in
set_option maxRecDepth 100000 in
theorem specGrown_any (va : Value) (cs : List ByteArray) (w : World) (ha : Rd w va (cellsS cs)) (hl : cs.length ≤ 1048576) (hs : ∀ c ∈ cs, c.size ≤ 1048576) :
    Calls Tryz.prog 45 #[va] w fun e w' => ∃ v, e = .returned (.tuple #[v, .int .i64 (grownT cs).2]) ∧ w'.ownsRow w.heap.size 9 1 v (grownT cs).1.length (cellsS (grownT cs).1) ∧ Below w.heap.size w w' := by
  obtain ⟨iS, hiS, hS0, hS1, hS2⟩ := info_parts Tryz.infoS
  obtain ⟨iI, hiI, hI0, hI1, hI2⟩ := info_parts Tryz.info64
  have hla : (cellsS cs).length = cs.length := by simp
  have hoS : ∀ (B : Nat) (W : World), B ≤ W.heap.size → (W.alloc (.cells #[] 9)).ownsRow B 9 1 (.slice (some ⟨W.heap.size, 0, none⟩) 0 0) 0 (cellsS []) := fun B W h => World.ownsRow_lit (base := B) (e := 9) (size := 1) W #[] 0 h (Nat.zero_le _) rfl
  have hoI : ∀ (B : Nat) (W : World), B ≤ W.heap.size → (W.alloc (.cells #[] 2)).ownsRow B 2 1 (.slice (some ⟨W.heap.size, 0, none⟩) 0 0) 0 (cellsInt64S []) := fun B W h => World.ownsRow_lit (base := B) (e := 2) (size := 1) W #[] 0 h (Nat.zero_le _) rfl
  have HOS := Lib.hid hoS
  have HOI := Lib.hid hoI
  clear hoS hoI
  obtain ⟨ao, cap, hv, hcap, hx⟩ := ha
  rw [hla] at hv hcap hx
  have HX : Hid (0 < cs.length → ∃ b off, ao = some ⟨b, off, none⟩ ∧ b < w.heap.size ∧ ∀ j, j < cs.length → w.cell? ⟨b, off + j, none⟩ = some (.string (cs.getD j ByteArray.empty))) := fun hp => by
    obtain ⟨b, off, h1, h3, h2⟩ := hx (by intro e; have := congrArg List.length e; rw [hla] at this; simp at this; rw [this] at hp; simp at hp)
    exact ⟨b, off, h1, h3, fun j hj => (h2 j hj).trans (strs_get cs j hj)⟩
  by_cases h64 : 1 ≤ cs.length ∧ cs.length ≤ 64
  rotate_left
  · have HG : Hid (grownT cs = ([], 0)) := by show _ = _; unfold grownT; rw [if_neg (fun h => h64 ⟨h.1, h.2.1⟩)]
    generalize grownT cs = G at HG ⊢
    have hG := HG.out
    subst hG
    subst hv
    generalize cs.length = n at h64 hcap ⊢
    have HO := Lib.hid (HOS.out w.heap.size w (Nat.le_refl _))
    have HB := Lib.hid ((Below.refl w.heap.size w).alloc (Nat.le_refl _) (.cells #[] 9))
    clear HX hx hla HG
    by_cases h1 : (n : Int) < 1
    · go_enter Tryz.func45, Tryz.ntmps45
      go_wp2
      exact bodyPost_ret (v := .tuple #[.slice (some ⟨w.heap.size, 0, none⟩) 0 0, .int .i64 0]) (by simp [results, Tryz.results45, go_sem]) rfl ⟨_, rfl, HO.out, HB.out⟩
    · have h4 : (64 : Int) < (n : Int) := by omega
      go_enter Tryz.func45, Tryz.ntmps45
      go_wp2
      exact bodyPost_ret (v := .tuple #[.slice (some ⟨w.heap.size, 0, none⟩) 0 0, .int .i64 0]) (by simp [results, Tryz.results45, go_sem]) rfl ⟨_, rfl, HO.out, HB.out⟩
  have HNO : Hid (∀ i, i < cs.length → 2000 ≤ (cs.getD i ByteArray.empty).size → grownT cs = ([], 0)) := fun i hi h => by
    unfold grownT
    refine if_neg fun k => ?_
    have e : cs.getD i ByteArray.empty = cs[i] := by simp [List.getD, hi]
    have := k.2.2 cs[i] (List.getElem_mem hi)
    rw [e] at h
    omega
  have HYES : Hid ((∀ i, i < cs.length → (cs.getD i ByteArray.empty).size < 2000) → grownT cs = (cs.map leafT ++ (above 5 (cs.map leafT)).1, (above 5 (cs.map leafT)).2)) := fun h => by
    unfold grownT
    refine if_pos ⟨h64.1, h64.2, fun c hc => ?_⟩
    obtain ⟨i, hi, rfl⟩ := List.getElem_of_mem hc
    have := h i hi
    simpa [List.getD, hi] using this
  have HTK : Hid (∀ k, k < cs.length → (cs.take (k + 1)).map leafT = (cs.take k).map leafT ++ [leafT (cs.getD k ByteArray.empty)]) := fun k hk => by
    rw [List.take_succ_eq_append_getElem hk, List.map_append]
    simp [List.getD, hk]
  have HTE : Hid ((cs.take cs.length).map leafT = cs.map leafT) := by show _ = _; rw [List.take_length]
  generalize grownT cs = G at HNO HYES ⊢
  obtain ⟨n, hn⟩ : ∃ n, n = cs.length := ⟨_, rfl⟩
  have HN : Hid (n = cs.length) := hn
  rw [← hn] at hv hcap h64 HX HNO HYES HTK HTE
  subst hv
  clear hx hla hn hs hl
  have h1 : ¬ (n : Int) < 1 := by omega
  have h4 : ¬ (64 : Int) < (n : Int) := by omega
  have hoo := HOS.out w.heap.size w (Nat.le_refl _)
  have hb0 : Below w.heap.size w (w.alloc (.cells #[] 9)) := (Below.refl _ _).alloc (Nat.le_refl _) _
  have hoo1 := hoo.alloc (.cells #[] 2)
  have hio1 := HOI.out w.heap.size (w.alloc (.cells #[] 9)) hb0.size
  have hb1 : Below w.heap.size w ((w.alloc (.cells #[] 9)).alloc (.cells #[] 2)) := hb0.alloc hb0.size _
  rw [World.size_alloc] at hio1
  clear hoo hb0
  go_enter Tryz.func45, Tryz.ntmps45
  go_wp2
  go_loopw [4, 5, 6] (fun vo vr i wr => ∃ k : Nat, k ≤ n ∧ i = .int .i64 k ∧ wr.ownsRow w.heap.size 9 1 vo k (cellsS ((cs.take k).map leafT)) ∧ wr.ownsRow w.heap.size 2 1 vr k (cellsInt64S (dgs ((cs.take k).map leafT))) ∧ Hid (∀ j, j < k → (cs.getD j ByteArray.empty).size < 2000) ∧ Below w.heap.size w wr) (fun _ _ i _ => n - (intOf i).toNat)
  case atStart => exact ⟨0, Nat.zero_le _, rfl, hoo1, hio1, fun j h => by omega, hb1⟩
  case round =>
    rename World => wr
    obtain ⟨k, hk, rfl, hou, hro, hsm, hb⟩ := hrel
    clear hoo1 hio1 hb1
    have hsz := hb.size
    by_cases hltk : k < n
    · obtain ⟨b, off, rfl, hlt, hc⟩ := HX.out (by omega)
      have c0 := (hb.cell (p := ⟨b, off + k, none⟩) hlt).trans (hc k hltk)
      have htk := HTK.out k hltk
      have hno := Lib.hid (HNO.out k hltk)
      have hnew : Hid ((cs.getD k ByteArray.empty).size < 2000 → ∀ j, j < k + 1 → (cs.getD j ByteArray.empty).size < 2000) := fun h j hj => by
        rcases Nat.lt_or_ge j k with g | g
        · exact hsm.out j g
        · obtain rfl : j = k := by omega
          exact h
      obtain ⟨x, hx⟩ : ∃ x, x = cs.getD k ByteArray.empty := ⟨_, rfl⟩
      rw [← hx] at c0 htk hno hnew
      clear hx hc hsm
      by_cases hbig : 2000 ≤ x.size
      · have hG := hno.out hbig
        subst hG
        have hI : (2000 : Int) ≤ (x.size : Int) := by omega
        have HO := Lib.hid (HOS.out w.heap.size wr hsz)
        have HB := Lib.hid (hb.alloc hsz (.cells #[] 9))
        clear hno hnew htk hou hro hb
        go_wp2
        exact bodyPost_ret (v := .tuple #[.slice (some ⟨wr.heap.size, 0, none⟩) 0 0, .int .i64 0]) (by simp [results, Tryz.results45, go_sem]) rfl ⟨_, rfl, HO.out, HB.out⟩
      · have hI : ¬ (2000 : Int) ≤ (x.size : Int) := by omega
        have HNW := Lib.hid (hnew.out (by omega))
        have hlf := specLeaf_any x wr (by omega)
        have htz : (leafT x).size ≤ 2001 := by unfold leafT leafL; rw [asB_size, List.length_cons, byts_len]; omega
        obtain ⟨t, ht⟩ : ∃ t, t = leafT x := ⟨_, rfl⟩
        rw [← ht] at hlf htz htk
        have hdt : dgs ((cs.take (k + 1)).map leafT) = dgs ((cs.take k).map leafT) ++ [digest t] := by rw [htk]; simp [dgs]
        obtain ⟨A, hA⟩ : ∃ A, A = (cs.take k).map leafT := ⟨_, rfl⟩
        obtain ⟨A2, hA2⟩ : ∃ A2, A2 = (cs.take (k + 1)).map leafT := ⟨_, rfl⟩
        have HA2 : Hid ((cs.take (k + 1)).map leafT = A2) := hA2.symm
        rw [← hA] at hou hro htk hdt
        rw [← hA2] at htk hdt
        clear hno hnew ht hA hA2
        go_wp2_with fail
        refine hlf.mono ?_
        rintro e w2 ⟨rfl, rfl⟩
        clear hlf
        go_wp2_with (at_builtin; refine wpList_append_own _ rfl _ _ 67 rfl w.heap.size 9 iS (.string ⟨#[]⟩) 1 16 Tryz.underlying67 hiS hS0 hS1 hS2 rfl (by decide) _ _ _ rfl (hou.alloc _) ⟨w2.heap.size, 0, none⟩ 1 1 [.string t] rfl rfl (one_text w2 t _) (fun u hu => by rw [List.mem_singleton.1 hu]; rfl) (by unfold maxLen; omega) (by omega) (by rw [World.size_alloc]; omega) ?_)
        intro v3 w3 ho3 hg3 _
        have hg4 := grown_trans (World.grownBy_alloc w2 _ _) hg3
        have hb3 := hb.grown hg4 hsz (fun k hk => (hou.lt k hk).1)
        have hr3 := owns_apart hro hou (by decide) hg4
        have ho4 : w3.ownsRow w.heap.size 9 1 v3 (k + 1) (cellsS A2) := by rw [htk]; simpa using ho3
        have hs3 := hb3.size
        clear ho3 hg3 hg4 hou hro hb c0
        go_wp2_with fail
        refine (specDigest_any t w3 (by omega)).mono ?_
        rintro e w4 ⟨rfl, rfl⟩
        obtain ⟨D, hD⟩ : ∃ D, D = digest t := ⟨_, rfl⟩
        rw [← hD] at hdt ⊢
        clear hD
        go_wp2_with (at_builtin; refine wpList_append_own _ rfl _ _ 25 rfl w.heap.size 2 iI (.int .i64 0) 1 8 Tryz.underlying25 hiI hI0 hI1 hI2 rfl (by decide) _ _ _ rfl (hr3.alloc _) ⟨w4.heap.size, 0, none⟩ 1 1 [.int .i64 D] rfl rfl (one_cell w4 .i64 _ _) (ints_oneCell .i64 [D]) (by unfold maxLen; omega) (by omega) (by rw [World.size_alloc]; omega) ?_)
        intro v5 w5 ho5 hg5 _
        have hg6 := grown_trans (World.grownBy_alloc w4 _ _) hg5
        have hb5 := hb3.grown hg6 hs3 (fun k hk => (hr3.lt k hk).1)
        have ho6 := owns_apart ho4 hr3 (by decide) hg6
        have hr6 : w5.ownsRow w.heap.size 2 1 v5 (k + 1) (cellsInt64S (dgs A2)) := by rw [hdt]; simpa using ho5
        clear ho5 hg5 hg6 ho4 hr3 hb3
        go_wp2
        go_roundw
        case rel => exact ⟨k + 1, by omega, by go_num, by rw [HA2.out]; exact ho6, by rw [HA2.out]; exact hr6, HNW, hb5⟩
        case measure => simp [intOf]; omega
    · obtain rfl : k = n := by omega
      have hG := HYES.out (fun i hi => hsm.out i hi)
      rw [HTE.out] at hou hro
      have hAl : (cs.map leafT).length = k := by rw [List.length_map]; exact HN.out.symm
      have hG1 : G.1.length ≤ 192 := by
        have h2 := above_len 5 (cs.map leafT)
        rw [hG, List.length_append, hAl]
        omega
      obtain ⟨A0, hA0⟩ : ∃ A0, A0 = cs.map leafT := ⟨_, rfl⟩
      rw [← hA0] at hou hro hG hAl
      have HG1 : Hid (G.1 = A0 ++ (above (4 + 1) A0).1 ∧ G.2 = (above (4 + 1) A0).2) := by show _ ∧ _; rw [hG]; exact ⟨rfl, rfl⟩
      have HG192 := Lib.hid hG1
      have hdl : ∀ A : List ByteArray, (dgs A).length = A.length := fun A => by simp [dgs]
      have HDL := Lib.hid hdl
      have hou2 := hou
      have hro2 := hro
      rw [← hAl] at hou2 hro2
      have hA4 : A0.length ≤ 4 ^ 4 := by have : 4 ^ 4 = 256 := rfl; omega
      have hA1 : 1 ≤ A0.length := by omega
      obtain ⟨G1, G2⟩ := G
      simp only at HG1 HG192
      clear hG hA0 HX HNO HYES HTK HTE hsm hou hro hAl hG1 hdl
      show _
      have hkI : ¬ (k : Int) < (k : Int) := by omega
      go_wp2
      go_loopg [4, 5] 4 (fun f vo vr ws => ∃ (A out : List ByteArray), 1 ≤ A.length ∧ A.length ≤ 4 ^ f ∧ ws.ownsRow w.heap.size 9 1 vo out.length (cellsS out) ∧ ws.ownsRow w.heap.size 2 1 vr A.length (cellsInt64S (dgs A)) ∧ Hid (G1 = out ++ (above (f + 1) A).1 ∧ G2 = (above (f + 1) A).2) ∧ Below w.heap.size w ws)
      case atStart => exact ⟨A0, A0, hA1, hA4, hou2, hro2, HG1, hb⟩
      case round =>
        clear hou2 hro2 HG1 hb
        rename World => ws
        obtain ⟨A, out, hA1', hA4', hos, hrs, hGs, hbs⟩ := hrel
        have hss := hbs.size
        have hol : out.length ≤ 192 := by
          have h2 := hGs.out.1
          have h3 := HG192.out
          rw [h2, List.length_append] at h3
          omega
        obtain ⟨gr, cr, hvr, hgrB, hgrs, hcr1, hcr2⟩ : ∃ gr cr, _ = Value.slice (some ⟨gr, 0, none⟩) A.length cr ∧ w.heap.size ≤ gr ∧ gr < ws.heap.size ∧ A.length ≤ cr ∧ cr ≤ maxLen := by
          rcases hrs.2 with ⟨_, h0⟩ | ⟨g, c, cur, hv, hg, hh, hn, hm, _⟩
          · omega
          · exact ⟨g, c, hv, hg, (Array.getElem?_eq_some_iff.1 hh).1, hn, hm⟩
        subst hvr
        by_cases hone : A.length ≤ 1
        · have eA := one_of hone (fun e => by rw [e] at hA1'; simp at hA1')
          have hGe := hGs.out
          rw [above_low _ hone] at hGe
          have g1 : G1 = out := by have h9 := hGe.1; simpa using h9
          have g2 : G2 = digest (A.getD 0 ByteArray.empty) := hGe.2
          clear hGe
          have c0 := (hrs.cellAt 0 (by omega)).trans (ints_get .i64 (dgs A) 0 (by rw [HDL.out]; omega))
          have hd0 : (dgs A).getD 0 0 = digest (A.getD 0 ByteArray.empty) := by rw [eA]; rfl
          rw [hd0, ← g2] at c0
          subst g1
          have hlI : A.length = 1 := by omega
          have hlJ : ¬ (1 : Int) < (A.length : Int) := by omega
          obtain ⟨L, hL⟩ : ∃ L, L = A.length := ⟨_, rfl⟩
          rw [← hL] at hlJ ⊢
          have hL1 : 0 < L := by omega
          have HO := Lib.hid hos
          have HB := Lib.hid hbs
          clear hos hbs hrs hd0 eA g2 hGs hone hA1' hA4' hlI hL hcr1 hcr2
          clear hltk hk hkI h1 h4 h64 hA4 hA1
          go_wp2
          go_region
          rw [Exit.then]
          go_wp2
          go_ret2
          exact ⟨_, rfl, HO.out, by first | exact HB.out.drew | exact below_drewN HB.out _⟩
        · have h2 : 1 < A.length := by omega
          obtain ⟨f, hf⟩ : ∃ f, gk = f + 1 := by
            cases gk with
            | zero => simp at hA4'; omega
            | succ f => exact ⟨f, rfl⟩
          subst hf
          have hU4 : (upT (dgs A)).length ≤ 4 ^ f := upT_short hA4'
          have hGe := hGs.out
          rw [above_high (f + 1) h2] at hGe
          have hUn := upT_len (dgs A)
          rw [HDL.out] at hUn
          have HUK : Hid (∀ k, 4 * k < A.length → (upT (dgs A))[k]? = some (brT (((dgs A).drop (4 * k)).take 4))) := fun k hk => upT_at (by rw [HDL.out]; exact hk)
          obtain ⟨U, hU⟩ : ∃ U, U = upT (dgs A) := ⟨_, rfl⟩
          rw [← hU] at hU4 hGe hUn HUK
          have HGE : Hid (G1 = (out ++ U) ++ (above (f + 1) U).1 ∧ G2 = (above (f + 1) U).2) := ⟨by rw [hGe.1, List.append_assoc], hGe.2⟩
          obtain ⟨D, hD⟩ : ∃ D, D = dgs A := ⟨_, rfl⟩
          have hDl : D.length = A.length := by rw [hD, HDL.out]
          rw [← hD] at hrs HUK
          obtain ⟨L, hL⟩ : ∃ L, L = A.length := ⟨_, rfl⟩
          rw [← hL] at hrs hDl hUn HUK h2 hcr1 ⊢
          have HDl := Lib.hid hDl
          have HUl : Hid (U.length = (L + 3) / 4) := hUn
          have hl256 : U.length ≤ 192 := by
            have h9 := HG192.out
            have h8 := HGE.out.1
            rw [h8, List.length_append, List.length_append] at h9
            omega
          have hLb : L ≤ 1000 := by omega
          have HU4 := Lib.hid hU4
          have hlJ : (1 : Int) < (L : Int) := by omega
          have hnx := HOI.out ws.heap.size ws (Nat.le_refl _)
          have hos2 := hos.alloc (.cells #[] 2)
          have hrs2 := hrs.alloc (.cells #[] 2)
          have hbs2 := hbs.alloc hss (.cells #[] 2)
          have hsa : ws.heap.size ≤ (ws.alloc (.cells #[] 2)).heap.size := by rw [World.size_alloc]; omega
          have hos3 := hos2
          have e0 : cellsS out = cellsS (out ++ U.take 0) := by simp
          rw [e0] at hos3
          clear e0
          clear hGe hU hD hL hGs hos hrs hbs hos2 hA4' hA1' hone hU4 hltk hk hkI h1 h4 h64 hA4 hA1 hUn
          go_wp2
          go_loopw [4, 8, 9] (fun vo vn i wq => ∃ j : Nat, j ≤ U.length ∧ i = .int .i64 ((4 * j : Nat) : Int) ∧ wq.ownsRow w.heap.size 9 1 vo (out.length + j) (cellsS (out ++ U.take j)) ∧ wq.ownsRow ws.heap.size 2 1 vn j (cellsInt64S (dgs (U.take j))) ∧ wq.ownsRow w.heap.size 2 1 (.slice (some ⟨gr, 0, none⟩) L cr) L (cellsInt64S D) ∧ Below w.heap.size w wq ∧ ws.heap.size ≤ wq.heap.size) (fun _ _ i _ => 4 * U.length - (intOf i).toNat)
          case atStart => exact ⟨0, Nat.zero_le _, rfl, hos3, hnx, hrs2, hbs2, hsa⟩
          case round =>
            rename World => wq
            obtain ⟨j, hj, rfl, hoq, hnq, hrq, hbq, hsq⟩ := hrel
            clear hos3 hnx hrs2 hbs2 hsa
            have hUl := HUl.out
            by_cases hjm : 4 * j < L
            · have hjU : j < U.length := by omega
              have hut := HUK.out j hjm
              have htk : U.take (j + 1) = U.take j ++ [brT ((D.drop (4 * j)).take 4)] := by
                rw [List.take_succ_eq_append_getElem hjU]
                congr 2
                have := (List.getElem?_eq_some_iff.1 hut).2
                exact this
              obtain ⟨q, hq⟩ : ∃ q : Nat, q = 4 * j := ⟨_, rfl⟩
              obtain ⟨b, hb⟩ : ∃ b : Nat, (if (L : Int) < (q : Int) + 4 then (L : Int) else (q : Int) + 4) = (b : Int) := by
                by_cases h : (L : Int) < (q : Int) + 4
                · exact ⟨L, if_pos h⟩
                · exact ⟨q + 4, by rw [if_neg h]; rfl⟩
              have hbb : q < b ∧ b ≤ L ∧ (b = q + 4 ∨ b = L ∧ L < q + 4) := by
                by_cases h : (L : Int) < (q : Int) + 4
                · rw [if_pos h] at hb; omega
                · rw [if_neg h] at hb; omega
              obtain ⟨u, hsl, hru⟩ := rd_sub (rd_owns hrq) HDl.out hcr1 hcr2 q b hbb.1 hbb.2.1
              have hsub : (D.drop q).take (b - q) = (D.drop (4 * j)).take 4 := by
                rw [← hq]
                rcases hbb.2.2 with h | ⟨h, h'⟩
                · rw [h, Nat.add_sub_cancel_left]
                · have hdl : (D.drop q).length = L - q := by rw [List.length_drop, HDl.out]
                  rw [List.take_of_length_le (by omega), List.take_of_length_le (by omega)]
              rw [hsub] at hru
              have h31 : (brT ((D.drop (4 * j)).take 4)).size ≤ 31 := brT_31
              have hbr := specBranch_any u _ wq (hru wq (Below.refl _ _)) (by rw [List.length_take]; omega)
              obtain ⟨t, ht⟩ : ∃ t, t = brT ((D.drop (4 * j)).take 4) := ⟨_, rfl⟩
              rw [← ht] at hbr htk h31
              have hdt : dgs (U.take (j + 1)) = dgs (U.take j) ++ [digest t] := by rw [htk]; simp [dgs]
              have hmn := l1Min_any (L : Int) ((q : Int) + 4) wq
              rw [hb] at hmn
              have HQ : Hid (q = 4 * j) := hq
              rw [← hq] at hjm ⊢
              have hqI : (q : Int) < (L : Int) := by omega
              clear hut ht hsub hru hb hq hUl
              have hsz0 := hbq.size
              go_wp2_with fail
              refine hmn.mono ?_
              rintro e w2 ⟨rfl, rfl⟩
              clear hmn
              go_wp2_with fail
              refine hbr.mono ?_
              rintro e w3 ⟨rfl, hb3⟩
              have hB3 := hbq.trans (hb3.mono hsz0)
              have ho3 := owns_below hoq hb3
              have hn3 := owns_below hnq hb3
              have hr3 := owns_below hrq hb3
              have hs3 : ws.heap.size ≤ w3.heap.size := Nat.le_trans hsq hb3.size
              have hs3' := hB3.size
              clear hbr hb3 hoq hnq hrq hbq hsl
              go_wp2_with (at_builtin; refine wpList_append_own _ rfl _ _ 67 rfl w.heap.size 9 iS (.string ⟨#[]⟩) 1 16 Tryz.underlying67 hiS hS0 hS1 hS2 rfl (by decide) _ _ _ rfl (ho3.alloc _) ⟨w3.heap.size, 0, none⟩ 1 1 [.string t] rfl rfl (one_text w3 t _) (fun u hu => by rw [List.mem_singleton.1 hu]; rfl) (by unfold maxLen; omega) (by omega) (by rw [World.size_alloc]; omega) ?_)
              intro v4 w4 ho4 hg4 _
              have hg5 := grown_trans (World.grownBy_alloc w3 _ _) hg4
              have hB4 := hB3.grown hg5 hs3' (fun k hk => (ho3.lt k hk).1)
              have hn4 := owns_apart hn3 ho3 (by decide) hg5
              have hr4 := owns_apart hr3 ho3 (by decide) hg5
              have hs4 : ws.heap.size ≤ w4.heap.size := Nat.le_trans hs3 hg5.size
              have ho5 : w4.ownsRow w.heap.size 9 1 v4 (out.length + (j + 1)) (cellsS (out ++ U.take (j + 1))) := by rw [htk]; simpa [Nat.add_assoc] using ho4
              have hs4' := hB4.size
              clear ho4 hg4 hg5 ho3 hn3 hr3 hB3
              go_wp2_with fail
              refine (specDigest_any t w4 (by omega)).mono ?_
              rintro e w5 ⟨rfl, rfl⟩
              obtain ⟨E, hE⟩ : ∃ E, E = digest t := ⟨_, rfl⟩
              rw [← hE] at hdt ⊢
              clear hE
              go_wp2_with (at_builtin; refine wpList_append_own _ rfl _ _ 25 rfl ws.heap.size 2 iI (.int .i64 0) 1 8 Tryz.underlying25 hiI hI0 hI1 hI2 rfl (by decide) _ _ _ rfl (hn4.alloc _) ⟨w5.heap.size, 0, none⟩ 1 1 [.int .i64 E] rfl rfl (one_cell w5 .i64 _ _) (ints_oneCell .i64 [E]) (by unfold maxLen; omega) (by omega) (by rw [World.size_alloc]; omega) ?_)
              intro v6 w6 ho6 hg6 _
              have hg7 := grown_trans (World.grownBy_alloc w5 _ _) hg6
              have hnl := fun k hk => (hn4.lt k hk).1
              have hB6 := hB4.grown hg7 hs4' (fun k hk => by have := hnl k hk; omega)
              have ho7 := owns_apart ho5 hn4 (by decide) hg7
              have hr7 : w6.ownsRow w.heap.size 2 1 (.slice (some ⟨gr, 0, none⟩) L cr) L (cellsInt64S D) := owns_grown hr4 hg7 (fun k hk h => by
                have h1 : gr = k := Option.some.inj h
                have := hnl k hk
                omega)
              have hn7 : w6.ownsRow ws.heap.size 2 1 v6 (j + 1) (cellsInt64S (dgs (U.take (j + 1)))) := by rw [hdt]; simpa using ho6
              have hs6 : ws.heap.size ≤ w6.heap.size := Nat.le_trans hs4 hg7.size
              clear ho6 hg6 hg7 ho5 hn4 hr4 hB4 hnl
              go_wp2
              go_roundw
              case rel => exact ⟨j + 1, by omega, by have := HQ.out; go_num, ho7, hn7, hr7, hB6, hs6⟩
              case measure => have := HQ.out; simp [intOf]; omega
            · have hjU : j = U.length := by omega
              subst hjU
              rw [List.take_length] at hoq hnq
              have hqI : ¬ ((4 * U.length : Nat) : Int) < (L : Int) := by omega
              obtain ⟨q, hq⟩ : ∃ q : Nat, q = 4 * U.length := ⟨_, rfl⟩
              rw [← hq] at hqI ⊢
              have hoq2 := hoq
              rw [← List.length_append] at hoq2
              have hnq2 := owns_base hnq hss
              have hU1 : 1 ≤ U.length := by omega
              clear hq hoq hnq hrq hjm
              go_wp2
              go_roundg f
              case measure => omega
              case rel => exact ⟨U, out ++ U, hU1, HU4.out, hoq2, hnq2, HGE, hbq⟩
end Go.Proofs.YtdiammehnakchacGreat
