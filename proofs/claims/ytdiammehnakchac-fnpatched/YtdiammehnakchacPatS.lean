/- CONTRACT: the specification's Patched. -/
import Derived.Test.YtdiammehnakchacBlkS
import Derived.Test.YtdiammehnakchacBitS
import Derived.Test.YtdiammehnakchacDig
import Derived.Test.YtdiammehnakchacCat
import Derived.Lib.AppendStr
import Derived.Lib.BufferWrite
namespace Go.Proofs.Ytdiammehnakchac
open Go.RowKit
set_option linter.unusedVariables false
abbrev patR (o : Option ByteArray) : Value := .tuple #[.string (o.getD ⟨#[]⟩), .bool o.isSome]
theorem pat_drop {old : ByteArray} {n : Nat} {xs : List Bl} {k : Nat} (h : k < xs.length) : xs.drop k = xs.getD k bl0 :: xs.drop (k + 1) := by
  rw [List.drop_eq_getElem_cons h]
  simp [List.getD, h]
theorem pat_none {old : ByteArray} {n : Nat} {xs : List Bl} {k : Nat} {zs : List Int} (h : k < xs.length) (hb : bitT old n (xs.getD k bl0) = none) : patF old n (xs.drop k) zs = none := by
  rw [pat_drop (old := old) (n := n) h, patF, hb]
theorem pat_big {old : ByteArray} {n : Nat} {xs : List Bl} {k : Nat} {zs : List Int} {t : ByteArray} (h : k < xs.length) (hb : bitT old n (xs.getD k bl0) = some t) (hl : ¬ zs.length + t.size ≤ 20000) : patF old n (xs.drop k) zs = none := by
  rw [pat_drop (old := old) (n := n) h, patF, hb]
  simp only
  rw [if_neg hl]
theorem pat_next {old : ByteArray} {n : Nat} {xs : List Bl} {k : Nat} {zs : List Int} {t : ByteArray} (h : k < xs.length) (hb : bitT old n (xs.getD k bl0) = some t) (hl : zs.length + t.size ≤ 20000) : patF old n (xs.drop k) zs = patF old n (xs.drop (k + 1)) (zs ++ byts t) := by
  rw [pat_drop (old := old) (n := n) h, patF, hb]
  simp only
  rw [if_pos hl]
theorem bit_text {old : ByteArray} {n : Nat} {d : Int} {x : ByteArray} (h : d = -1) : bitT old n (d, x) = some x := by unfold bitT; rw [if_pos h]
theorem bit_blk {old : ByteArray} {n k : Nat} (hk : k < blkN old n) : bitT old n ((k : Int), ⟨#[]⟩) = some (blkT old n k) := by
  unfold bitT
  rw [if_neg (by simp only; omega), if_pos ⟨rfl, by simp only; omega, by simp only; omega⟩]
  rfl
theorem bit_no {old : ByteArray} {n : Nat} {d : Int} {x : ByteArray} (h : d ≠ -1) (hk : ¬ (0 ≤ d ∧ d < (blkN old n : Int)) ∨ x.size ≠ 0) : bitT old n (d, x) = none := by
  unfold bitT
  rw [if_neg h, if_neg (fun k => by
    rcases hk with hk | hk
    · exact hk k.2
    · exact hk k.1)]
theorem empty9 {x : ByteArray} (h : x.size = 0) : x = ⟨#[]⟩ := by
  apply ByteArray.ext
  exact Array.eq_empty_of_size_eq_zero h
theorem full9 {x : ByteArray} (h : x.size ≠ 0) : (x.toList == []) = false := by
  have hne : ¬ x.toList = [] := fun e => h (by rw [same_of (a := x) (b := ⟨#[]⟩) (by rw [e]; simp)]; rfl)
  simp [hne]
theorem byts_bytes9 (u : ByteArray) : Bytes (byts u) := fun x hx => by
  unfold byts at hx
  obtain ⟨b, _, rfl⟩ := List.mem_map.1 hx
  have := b.toNat_lt
  omega
set_option maxHeartbeats 4000000 in
set_option maxRecDepth 100000 in
theorem specPatched_any (old : ByteArray) (va : Value) (xs : List Bl) (n : Int) (w : World) (ha : RdB w va xs) (hl : xs.length ≤ 1048576) (hs : ∀ p ∈ xs, p.2.size ≤ 1048576) :
    Calls Try.prog 11 #[.string old, va, .int .i64 n] w fun e w' => e = .returned (patR (patchT old xs n)) ∧ Below w.heap.size w w' := by
  have hin := l1In9_any n 1 100 w
  by_cases hn : okN9 n
  rotate_left
  · have e1 : (decide (1 ≤ n) && decide (n ≤ 100)) = false := by
      rw [← Bool.decide_and]
      exact decide_eq_false hn
    rw [e1] at hin
    have e : patchT old xs n = none := by unfold patchT; rw [if_neg (fun h => hn h.1)]
    rw [e]
    obtain ⟨ao, cap, hv⟩ := rdB_shape ha
    subst hv
    clear e ha hs e1
    go_enter Try.func11, Try.ntmps11
    go_wp2_with fail
    refine hin.mono ?_
    rintro e w2 ⟨rfl, rfl⟩
    go_wp2
    go_ret2
    exact ⟨rfl, Below.refl _ _⟩
  have e1 : (decide (1 ≤ n) && decide (n ≤ 100)) = true := by simp [hn.1, hn.2]
  rw [e1] at hin
  by_cases hos : old.size ≤ 20000
  rotate_left
  · have e : patchT old xs n = none := by unfold patchT; rw [if_neg (fun h => hos h.2)]
    rw [e]
    have hsI : (20000 : Int) < (old.size : Int) := by omega
    clear e ha hs e1
    go_enter Try.func11, Try.ntmps11
    go_wp2_with fail
    refine hin.mono ?_
    rintro e w2 ⟨rfl, rfl⟩
    go_wp2
    go_ret2
    exact ⟨rfl, Below.refl _ _⟩
  obtain ⟨m, rfl⟩ : ∃ m : Nat, n = m := ⟨n.toNat, by have := hn.1; omega⟩
  have hn1 : 1 ≤ m := by have := hn.1; omega
  have hn2 : m ≤ 100 := by have := hn.2; omega
  have hsI : ¬ (20000 : Int) < (old.size : Int) := by omega
  have HPT : Hid (patchT old xs m = (patF old m (xs.drop 0) []).map asB) := by show _ = _; unfold patchT; rw [if_pos ⟨hn, hos⟩, Int.toNat_natCast]; rfl
  have hcall := l9Blocks_any old m w hn1 hn2 hos
  have hN : blkN old m ≤ 20000 := Nat.le_trans (blkN_le hn1) hos
  have HG : Hid (∀ k, k < blkN old m → (blksK old m (blkN old m)).getD k ByteArray.empty = blkT old m k) := fun k h => blksK_get h
  have HGL : Hid ((blksK old m (blkN old m)).length = blkN old m) := blksK_len _ _ _
  have HZ : Hid (∀ k, (blkT old m k).size ≤ 100) := fun k => Nat.le_trans (blkT_le old m k) hn2
  have HS : Hid (∀ k, k < xs.length → (xs.getD k bl0).2.size ≤ 1048576) := fun k hk => by
    have e : xs.getD k bl0 = xs[k] := by simp [List.getD, hk]
    rw [e]; exact hs _ (List.getElem_mem hk)
  have HNO : Hid (∀ k zs, k < xs.length → bitT old m (xs.getD k bl0) = none → patF old m (xs.drop k) zs = none) := fun k zs h hb => pat_none h hb
  have HBG : Hid (∀ k zs t, k < xs.length → bitT old m (xs.getD k bl0) = some t → ¬ zs.length + t.size ≤ 20000 → patF old m (xs.drop k) zs = none) := fun k zs t h hb hl => pat_big h hb hl
  have HNX : Hid (∀ k zs t, k < xs.length → bitT old m (xs.getD k bl0) = some t → zs.length + t.size ≤ 20000 → patF old m (xs.drop k) zs = patF old m (xs.drop (k + 1)) (zs ++ byts t)) := fun k zs t h hb hl => pat_next h hb hl
  have HEND : Hid (∀ zs, patF old m (xs.drop xs.length) zs = some zs) := fun zs => by show _ = _; rw [List.drop_length]; rfl
  have HBK : Hid (∀ k : Nat, k < blkN old m → bitT old m ((k : Int), ⟨#[]⟩) = some (blkT old m k)) := fun k h => bit_blk h
  have HBT : Hid (∀ (d : Int) (x : ByteArray), d = -1 → bitT old m (d, x) = some x) := fun d x h => bit_text h
  have HBN : Hid (∀ (d : Int) (x : ByteArray), d ≠ -1 → (¬ (0 ≤ d ∧ d < (blkN old m : Int)) ∨ x.size ≠ 0) → bitT old m (d, x) = none) := fun d x h hk => bit_no h hk
  generalize patchT old xs m = R at HPT ⊢
  generalize hPF : patF old m = PF at HPT HNO HBG HNX HEND
  generalize hBI : bitT old m = BI at HNO HBG HNX HBK HBT HBN
  generalize hBL : blksK old m = BL at HG HGL hcall
  generalize hBX : blkT old m = BX at HG HZ HBK
  generalize blkN old m = N at hcall hN HG HGL HBK HBN
  generalize hbl : BL N = BB at hcall HG HGL
  clear hPF hBI hBL hBX hbl e1
  obtain ⟨i0, hi, hz0, hz1, hz2⟩ := info_parts Try.infoB
  obtain ⟨ao, cap, hv⟩ := rdB_shape ha
  subst hv
  have HX : Hid (∀ j, j < xs.length → ∃ b off, ao = some ⟨b, off, none⟩ ∧ b < w.heap.size ∧ w.cell? ⟨b, off + j * 2, none⟩ = some (.int .i64 (xs.getD j bl0).1) ∧ w.cell? ⟨b, off + j * 2 + 1, none⟩ = some (.string (xs.getD j bl0).2)) := fun j hj => by
    rcases rdB_cases ha with ⟨h1, _⟩ | ⟨hp, b, off, cap', hv, _, hlt, hc⟩
    · rw [h1] at hj; exact absurd hj (Nat.not_lt_zero _)
    · simp only [Value.slice.injEq, true_and] at hv
      exact ⟨b, off, hv.1, hlt, (hc j hj).1, (hc j hj).2⟩
  obtain ⟨L, hL⟩ : ∃ L, L = xs.length := ⟨_, rfl⟩
  rw [← hL] at hl HS HNO HBG HNX HEND HX ⊢
  clear hs ha hL
  go_enter Try.func11, Try.ntmps11
  go_wp2_with fail
  refine hin.mono ?_
  rintro e w2 ⟨rfl, rfl⟩
  clear hin
  go_wp2_with fail
  refine hcall.mono ?_
  rintro e w3 ⟨vb, rfl, hob, hb3⟩
  obtain ⟨ab, cb, hvb⟩ := owns_slice hob
  subst hvb
  have HBC : Hid (∀ k, k < N → ∃ g, ab = some ⟨g, 0, none⟩ ∧ g < w3.heap.size ∧ w3.cell? ⟨g, k, none⟩ = some (.string (BX k))) := fun k hk => by
    obtain ⟨g, c, hg, _⟩ := owns_head hob (by omega)
    simp only [Value.slice.injEq, true_and] at hg
    obtain ⟨rfl, rfl⟩ := hg
    have hla := HGL.out
    refine ⟨g, rfl, (hob.lt g rfl).2, (hob.cellAt k (by omega)).trans ?_⟩
    rw [strs_get _ k (by omega), HG.out k hk]
  have HBW := Lib.hid hb3
  have hs3 := hb3.size
  have hob0 : (w3.alloc (.cells #[] 5)).ownsRow w3.heap.size 5 1 (.slice (some ⟨w3.heap.size, 0, none⟩) 0 0) ([] : List Int).length (cellsByteS []) := World.ownsRow_lit w3 #[] 0 (Nat.le_refl _) (Nat.zero_le _) rfl
  have hbb := (Below.refl w3.heap.size w3).alloc (Nat.le_refl _) (.cells #[] 5)
  clear hcall hob hb3 HG HGL
  go_wp2
  go_loopw [9, 10] (fun v i wr => ∃ (k : Nat) (zs : List Int), k ≤ L ∧ i = .int .i64 k ∧ zs.length ≤ 20000 ∧ Hid (Bytes zs) ∧ Hid (R = (PF (xs.drop k) zs).map asB) ∧ wr.ownsRow w3.heap.size 5 1 v zs.length (cellsByteS zs) ∧ Below w3.heap.size w3 wr) (fun _ i _ => L - (intOf i).toNat)
  case atStart => exact ⟨0, [], Nat.zero_le _, rfl, Nat.zero_le _, (fun x hx => by cases hx), HPT.out, hob0, hbb⟩
  case round =>
    rename World => wr
    obtain ⟨k, zs, hk, rfl, hzl, hzb, hR, ho, hb⟩ := hrel
    clear hob0 hbb HPT
    have hsb := hb.size
    by_cases hlt : k < L
    focus
      obtain ⟨b, off, rfl, hbl, c0, c1⟩ := HX.out k hlt
      have d0 := (hb.cell (p := ⟨b, off + k * 2, none⟩) (by show b < _; omega)).trans ((HBW.out.cell (p := ⟨b, off + k * 2, none⟩) hbl).trans c0)
      have d1 := (hb.cell (p := ⟨b, off + k * 2 + 1, none⟩) (by show b < _; omega)).trans ((HBW.out.cell (p := ⟨b, off + k * 2 + 1, none⟩) hbl).trans c1)
      have hsz := HS.out k hlt
      have HNO2 : Hid (BI (xs.getD k bl0) = none → R = none) := fun h => by rw [hR.out, HNO.out k zs hlt h]; rfl
      have HBG2 : Hid (∀ t, BI (xs.getD k bl0) = some t → ¬ zs.length + t.size ≤ 20000 → R = none) := fun t h hl => by rw [hR.out, HBG.out k zs t hlt h hl]; rfl
      have HNX2 : Hid (∀ t, BI (xs.getD k bl0) = some t → zs.length + t.size ≤ 20000 → R = (PF (xs.drop (k + 1)) (zs ++ byts t)).map asB) := fun t h hl => by rw [hR.out, HNX.out k zs t hlt h hl]
      obtain ⟨x, hx⟩ : ∃ x, x = (xs.getD k bl0).2 := ⟨_, rfl⟩
      obtain ⟨d, hd⟩ : ∃ d, d = (xs.getD k bl0).1 := ⟨_, rfl⟩
      have hxd : xs.getD k bl0 = (d, x) := by rw [hx, hd]
      rw [hxd] at HNO2 HBG2 HNX2
      rw [← hx] at d1 hsz
      rw [← hd] at d0
      have hba : Below w3.heap.size w3 (wr.alloc (.cells #[.int .i64 d, .string x] 54)) := hb.alloc hsb _
      have hoa := ho.alloc (.cells #[.int .i64 d, .string x] 54)
      have hsa := hba.size
      clear hx hd hxd c0 c1 hR ho hb
      by_cases hd1 : d = -1
      · have hbi := HBT.out d x hd1
        have hd1b : (d == -1) = true := by simp [hd1]
        have HBG3 : Hid (¬ zs.length + x.size ≤ 20000 → R = none) := HBG2.out x hbi
        have HNX3 : Hid (zs.length + x.size ≤ 20000 → R = (PF (xs.drop (k + 1)) (zs ++ byts x)).map asB) := HNX2.out x hbi
        clear hd1 hbi HNO2 HBG2 HNX2
        by_cases hx2 : 20000 < (x.size : Int)
        · have HE := Lib.hid (HBG3.out (by omega))
          have HBF := Lib.hid (HBW.out.trans (hba.mono HBW.out.size))
          clear hoa hba
          go_wp2
          go_ret2
          exact ⟨by rw [HE.out]; rfl, HBF.out⟩
        · go_wp2_with (at_builtin; refine Lib.wpList_append_own_string _ rfl _ _ 22 9 rfl w3.heap.size 5 i0 Try.underlying22 Try.underlying9 hi hz0 hz1 hz2 _ _ _ rfl hoa x rfl ?c3 ?c4 ?c5 ?_)
          case c3 => unfold maxLen; omega
          case c4 => omega
          case c5 => omega
          intro v5 w5 ho5 hg5 _
          have hb5 : Below w3.heap.size w3 w5 := hba.grown hg5 hba.size (fun k hk => (hoa.lt k hk).1)
          have ho6 : w5.ownsRow w3.heap.size 5 1 v5 (zs.length + x.size) (cellsByteS (zs ++ byts x)) := by
            rw [cellsByteS, List.map_append]
            rw [strCells_eq] at ho5
            exact ho5
          obtain ⟨a5, c5, hv5⟩ := owns_slice ho6
          subst hv5
          clear ho5 hg5 hoa hba
          by_cases hgt : 20000 < (zs.length : Int) + (x.size : Int)
          · have HE := Lib.hid (HBG3.out (by omega))
            have HBF := Lib.hid (HBW.out.trans (hb5.mono HBW.out.size))
            clear ho6 hb5
            go_wp2
            go_ret2
            exact ⟨by rw [HE.out]; rfl, HBF.out⟩
          · have HNX4 := Lib.hid (HNX3.out (by omega))
            have HZB : Hid (Bytes (zs ++ byts x)) := bytes_append hzb.out (byts_bytes9 x)
            have hlen : (zs ++ byts x).length = zs.length + x.size := by rw [List.length_append, byts_len]
            have ho7 : Hid (w5.ownsRow w3.heap.size 5 1 (.slice a5 (zs.length + x.size) c5) (zs ++ byts x).length (cellsByteS (zs ++ byts x))) := by show World.ownsRow _ _ _ _ _ _ _; rw [hlen]; exact ho6
            clear ho6 HBG3 HNX3
            go_wp2
            go_roundw
            case rel => exact ⟨k + 1, zs ++ byts x, by omega, by go_num, by omega, HZB, HNX4, ho7.out, hb5⟩
            case measure => simp [intOf]; omega
      have hd1b : (d == -1) = false := by simp [hd1]
      have hin2 := fun W => l1In9_any d 0 ((N : Int) - 1) W
      by_cases hval : 0 ≤ d ∧ d < (N : Int)
      rotate_left
      · have e2 : (decide (0 ≤ d) && decide (d ≤ (N : Int) - 1)) = false := by
          rw [← Bool.decide_and]
          exact decide_eq_false (fun h => hval ⟨h.1, by omega⟩)
        rw [e2] at hin2
        have HE := Lib.hid (HNO2.out (HBN.out d x hd1 (Or.inl hval)))
        have HBF := Lib.hid (HBW.out.trans (hba.mono HBW.out.size))
        clear hoa hba hval hd1 HNO2 HBG2 HNX2
        go_wp2_with fail
        refine (hin2 _).mono ?_
        rintro e w4 ⟨rfl, rfl⟩
        go_wp2
        go_ret2
        exact ⟨by rw [HE.out]; rfl, HBF.out⟩
      have e2 : (decide (0 ≤ d) && decide (d ≤ (N : Int) - 1)) = true := by
        rw [← Bool.decide_and]
        exact decide_eq_true ⟨hval.1, by omega⟩
      rw [e2] at hin2
      by_cases hx0 : x.size = 0
      rotate_left
      · have hfx := full9 hx0
        have HE := Lib.hid (HNO2.out (HBN.out d x hd1 (Or.inr hx0)))
        have HBF := Lib.hid (HBW.out.trans (hba.mono HBW.out.size))
        clear hoa hba hval hd1 HNO2 HBG2 HNX2 hx0
        go_wp2_with fail
        refine (hin2 _).mono ?_
        rintro e w4 ⟨rfl, rfl⟩
        go_wp2
        go_ret2
        exact ⟨by rw [HE.out]; rfl, HBF.out⟩
      obtain rfl := empty9 hx0
      obtain ⟨j, rfl⟩ : ∃ j : Nat, d = j := ⟨d.toNat, by omega⟩
      have hjN : j < N := by omega
      have hbi := HBK.out j hjN
      obtain ⟨g, rfl, hgl, hcb⟩ := HBC.out j hjN
      have hz := HZ.out j
      obtain ⟨y, hy⟩ : ∃ y, y = BX j := ⟨_, rfl⟩
      rw [← hy] at hbi hcb hz
      have dcb := (hba.cell (p := ⟨g, j, none⟩) hgl).trans hcb
      have HBG3 : Hid (¬ zs.length + y.size ≤ 20000 → R = none) := HBG2.out y hbi
      have HNX3 : Hid (zs.length + y.size ≤ 20000 → R = (PF (xs.drop (k + 1)) (zs ++ byts y)).map asB) := HNX2.out y hbi
      clear hbi HNO2 HBG2 HNX2 hval hd1 hx0 hy hcb
      go_wp2_with fail
      refine (hin2 _).mono ?_
      rintro e w4 ⟨rfl, rfl⟩
      go_wp2_with (at_builtin; refine Lib.wpList_append_own_string _ rfl _ _ 22 9 rfl w3.heap.size 5 i0 Try.underlying22 Try.underlying9 hi hz0 hz1 hz2 _ _ _ rfl hoa y rfl ?c3 ?c4 ?c5 ?_)
      case c3 => unfold maxLen; omega
      case c4 => omega
      case c5 => omega
      intro v5 w5 ho5 hg5 _
      have hb5 : Below w3.heap.size w3 w5 := hba.grown hg5 hba.size (fun k hk => (hoa.lt k hk).1)
      have ho6 : w5.ownsRow w3.heap.size 5 1 v5 (zs.length + y.size) (cellsByteS (zs ++ byts y)) := by
        rw [cellsByteS, List.map_append]
        rw [strCells_eq] at ho5
        exact ho5
      obtain ⟨a5, c5, hv5⟩ := owns_slice ho6
      subst hv5
      clear ho5 hg5 hoa hba dcb
      by_cases hgt : 20000 < (zs.length : Int) + (y.size : Int)
      · have HE := Lib.hid (HBG3.out (by omega))
        have HBF := Lib.hid (HBW.out.trans (hb5.mono HBW.out.size))
        clear ho6 hb5
        go_wp2
        go_ret2
        exact ⟨by rw [HE.out]; rfl, HBF.out⟩
      · have HNX4 := Lib.hid (HNX3.out (by omega))
        have HZB : Hid (Bytes (zs ++ byts y)) := bytes_append hzb.out (byts_bytes9 y)
        have hlen : (zs ++ byts y).length = zs.length + y.size := by rw [List.length_append, byts_len]
        have ho7 : Hid (w5.ownsRow w3.heap.size 5 1 (.slice a5 (zs.length + y.size) c5) (zs ++ byts y).length (cellsByteS (zs ++ byts y))) := by show World.ownsRow _ _ _ _ _ _ _; rw [hlen]; exact ho6
        clear ho6 HBG3 HNX3
        go_wp2
        go_roundw
        case rel => exact ⟨k + 1, zs ++ byts y, by omega, by go_num, by omega, HZB, HNX4, ho7.out, hb5⟩
        case measure => simp [intOf]; omega
    obtain rfl : k = L := by omega
    have HE : Hid (R = some (asB zs)) := by
      show _ = _
      rw [hR.out, HEND.out]
      rfl
    have hso := str_own ho hzb.out
    have HBF := Lib.hid (HBW.out.trans (hb.mono HBW.out.size))
    obtain ⟨z, hz⟩ : ∃ z, z = asB zs := ⟨_, rfl⟩
    rw [← hz] at HE hso
    obtain ⟨av, cv, hvv⟩ := owns_slice ho
    subst hvv
    clear hR ho hb hz hzb
    go_wp2
    go_ret2
    exact ⟨by rw [HE.out]; rfl, HBF.out⟩
end Go.Proofs.Ytdiammehnakchac
