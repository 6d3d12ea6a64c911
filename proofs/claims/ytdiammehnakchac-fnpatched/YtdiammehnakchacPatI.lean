/- CONTRACTS: the program's told (of a Bit), Patched. -/
import Derived.Test.YtdiammehnakchacPatS
import Derived.Test.YtdiammehnakchacBlkI
import Derived.Test.YtdiammehnakchacOwnR
namespace Go.Proofs.Ytdiammehnakchac
open Go.RowKit
set_option linter.unusedVariables false
theorem bit_tel {old : ByteArray} {n : Nat} {d : Int} (h : d ≠ -1) : bitT old n (d, ⟨#[]⟩) = telT old n d := by
  unfold bitT telT
  rw [if_neg h]
  by_cases hk : 0 ≤ d ∧ d < (blkN old n : Int)
  · rw [if_pos ⟨rfl, hk⟩, if_pos hk]
  · rw [if_neg (fun g => hk g.2), if_neg hk]
set_option maxHeartbeats 1000000 in
set_option maxRecDepth 100000 in
theorem told9_any (old : ByteArray) (n b : Nat) (d : Int) (x : ByteArray) (w : World) (ht : Tel old n b w) (hn1 : 1 ≤ n) (hn2 : n ≤ 100) (hs : old.size ≤ 20000) :
    Calls Try.prog 30 #[.agg #[.int .i64 d, .string x], telV b] w fun e w' => e = .returned (telR (bitT old n (d, x))) ∧ Below w.heap.size w w' := by
  have hb1 := (Below.refl w.heap.size w).alloc (Nat.le_refl _) (.cells #[.int .i64 d, .string x] 54)
  by_cases hd1 : d = -1
  · rw [bit_text hd1]
    have hd1b : (d == -1) = true := by simp [hd1]
    clear hd1
    go_enter Try.func30, Try.ntmps30
    go_wp2
    go_ret2
    exact ⟨rfl, hb1⟩
  have hd1b : (d == -1) = false := by simp [hd1]
  by_cases hx0 : x.size = 0
  · obtain rfl := empty9 hx0
    rw [bit_tel hd1]
    have hcall := teller_any old n b d (w.alloc (.cells #[.int .i64 d, .string ⟨#[]⟩] 54)) (tel_below ht hb1) hn1 hn2 hs
    generalize telT old n d = R at hcall ⊢
    clear hd1 hx0 ht
    go_enter Try.func30, Try.ntmps30
    go_wp2_with fail
    refine hcall.mono ?_
    rintro e w2 ⟨rfl, rfl⟩
    clear hcall
    go_wp2
    go_ret2
    exact ⟨rfl, hb1⟩
  · rw [bit_no hd1 (Or.inr hx0)]
    have hfx := full9 hx0
    clear hd1 hx0 ht
    go_enter Try.func30, Try.ntmps30
    go_wp2
    go_ret2
    exact ⟨rfl, hb1⟩
set_option maxHeartbeats 4000000 in
set_option maxRecDepth 100000 in
theorem implPatched_any (old : ByteArray) (va : Value) (xs : List Bl) (n : Int) (w : World) (ha : RdB w va xs) (hl : xs.length ≤ 1048576) (hs : ∀ p ∈ xs, p.2.size ≤ 1048576) :
    Calls Try.prog 8 #[.string old, va, .int .i64 n] w fun e w' => e = .returned (patR (patchT old xs n)) ∧ Below w.heap.size w w' := by
  have hhb := hasBlocks_any old n w
  by_cases hok : okN9 n ∧ old.size ≤ 20000
  rotate_left
  · rw [decide_eq_false hok] at hhb
    have e : patchT old xs n = none := by unfold patchT; rw [if_neg hok]
    rw [e]
    clear e ha hs hok
    go_enter Try.func8, Try.ntmps8
    go_wp2_with fail
    refine hhb.mono ?_
    rintro e w2 ⟨rfl, rfl⟩
    go_wp2
    go_ret2
    exact ⟨rfl, Below.refl _ _⟩
  rw [decide_eq_true hok] at hhb
  have hos := hok.2
  obtain ⟨m, rfl⟩ : ∃ m : Nat, n = m := ⟨n.toNat, by have := hok.1.1; omega⟩
  have hn1 : 1 ≤ m := by have := hok.1.1; omega
  have hn2 : m ≤ 100 := by have := hok.1.2; omega
  have HPT : Hid (patchT old xs m = (patF old m (xs.drop 0) []).map asB) := by show _ = _; unfold patchT; rw [if_pos hok, Int.toNat_natCast]; rfl
  have hbo := blocksOf_any old m w
  have HTD := Lib.hid (fun (d : Int) (x : ByteArray) (W : World) (h : Tel old m w.heap.size W) => told9_any old m w.heap.size d x W h hn1 hn2 hos)
  have HS : Hid (∀ k, k < xs.length → (xs.getD k bl0).2.size ≤ 1048576) := fun k hk => by
    have e : xs.getD k bl0 = xs[k] := by simp [List.getD, hk]
    rw [e]; exact hs _ (List.getElem_mem hk)
  have HNO : Hid (∀ k zs, k < xs.length → bitT old m (xs.getD k bl0) = none → patF old m (xs.drop k) zs = none) := fun k zs h hb => pat_none h hb
  have HBG : Hid (∀ k zs t, k < xs.length → bitT old m (xs.getD k bl0) = some t → ¬ zs.length + t.size ≤ 20000 → patF old m (xs.drop k) zs = none) := fun k zs t h hb hl => pat_big h hb hl
  have HNX : Hid (∀ k zs t, k < xs.length → bitT old m (xs.getD k bl0) = some t → zs.length + t.size ≤ 20000 → patF old m (xs.drop k) zs = patF old m (xs.drop (k + 1)) (zs ++ byts t)) := fun k zs t h hb hl => pat_next h hb hl
  have HEND : Hid (∀ zs, patF old m (xs.drop xs.length) zs = some zs) := fun zs => by show _ = _; rw [List.drop_length]; rfl
  have HTS : Hid (∀ (d : Int) (x t : ByteArray), x.size ≤ 1048576 → bitT old m (d, x) = some t → t.size ≤ 1048576) := fun d x t hx h => by
    unfold bitT at h
    split at h
    · obtain rfl := Option.some.inj h; exact hx
    · split at h
      · obtain rfl := Option.some.inj h
        have h9 := blkT_le old m d.toNat
        show (blkT old m d.toNat).size ≤ _
        omega
      · cases h
  generalize patchT old xs m = R at HPT ⊢
  generalize hPF : patF old m = PF at HPT HNO HBG HNX HEND
  generalize hBI : bitT old m = BI at HNO HBG HNX HTD HTS
  clear hPF hBI hok hos
  obtain ⟨i0, hi, hz0, hz1, hz2⟩ := info_parts Try.infoB
  obtain ⟨ao, cap, hv⟩ := rdB_shape ha
  subst hv
  have HX : Hid (∀ j, j < xs.length → ∃ b off, ao = some ⟨b, off, none⟩ ∧ b < w.heap.size ∧ w.cell? ⟨b, off + j * 2, none⟩ = some (.int .i64 (xs.getD j bl0).1) ∧ w.cell? ⟨b, off + j * 2 + 1, none⟩ = some (.string (xs.getD j bl0).2)) := fun j hj => by
    rcases rdB_cases ha with ⟨h1, _⟩ | ⟨hp, b, off, cap', hv, _, hlt, hc⟩
    · rw [h1] at hj; exact absurd hj (Nat.not_lt_zero _)
    · simp only [Value.slice.injEq, true_and] at hv
      exact ⟨b, off, hv.1, hlt, (hc j hj).1, (hc j hj).2⟩
  obtain ⟨L, hL⟩ : ∃ L, L = xs.length := ⟨_, rfl⟩
  rw [← hL] at hl HS HNO HBG HNX HEND HX ⊢
  clear hs ha hL
  go_enter Try.func8, Try.ntmps8
  go_wp2_with fail
  refine hhb.mono ?_
  rintro e w2 ⟨rfl, rfl⟩
  clear hhb
  go_wp2_with fail
  refine hbo.mono ?_
  rintro e w3 ⟨rfl, htel, hb3⟩
  have HTEL := Lib.hid htel
  have HBW := Lib.hid hb3
  have hs3 := hb3.size
  have hob0 : w3.ownsRow w3.heap.size 5 1 (.slice none 0 0) ([] : List Int).length (cellsByteS []) := ⟨rfl, Or.inl ⟨rfl, rfl⟩⟩
  have hbb := Below.refl w3.heap.size w3
  clear hbo htel hb3
  go_wp2
  go_loopw [8, 23] (fun v i wr => ∃ (k : Nat) (zs : List Int), k ≤ L ∧ i = .int .i64 k ∧ zs.length ≤ 20000 ∧ Hid (Bytes zs) ∧ Hid (R = (PF (xs.drop k) zs).map asB) ∧ wr.ownsRow w3.heap.size 5 1 v zs.length (cellsByteS zs) ∧ Below w3.heap.size w3 wr) (fun _ i _ => L - (intOf i).toNat)
  case atStart => exact ⟨0, [], Nat.zero_le _, rfl, Nat.zero_le _, (fun x hx => by cases hx), HPT.out, hob0, hbb⟩
  case round =>
    rename World => wr
    obtain ⟨k, zs, hk, rfl, hzl, hzb, hR, ho, hb⟩ := hrel
    clear hob0 hbb HPT
    have hsb := hb.size
    by_cases hlt : k < L
    focus
      obtain ⟨b, off, rfl, hbl, c0, c1⟩ := HX.out k hlt
      have d0 := (hb.cell (p := ⟨b, off + k * 2, none⟩) (by show b < _; omega)).trans ((HBW.out.cell (p := ⟨b, off + k * 2, none⟩) hbl).trans c0)
      have d1 := (hb.cell (p := ⟨b, off + k * 2 + 1, none⟩) (by show b < _; omega)).trans ((HBW.out.cell (p := ⟨b, off + k * 2 + 1, none⟩) hbl).trans c1)
      have hsz := HS.out k hlt
      have HNO2 : Hid (BI (xs.getD k bl0) = none → R = none) := fun h => by rw [hR.out, HNO.out k zs hlt h]; rfl
      have HBG2 : Hid (∀ t, BI (xs.getD k bl0) = some t → ¬ zs.length + t.size ≤ 20000 → R = none) := fun t h hl => by rw [hR.out, HBG.out k zs t hlt h hl]; rfl
      have HNX2 : Hid (∀ t, BI (xs.getD k bl0) = some t → zs.length + t.size ≤ 20000 → R = (PF (xs.drop (k + 1)) (zs ++ byts t)).map asB) := fun t h hl => by rw [hR.out, HNX.out k zs t hlt h hl]
      obtain ⟨x, hx⟩ : ∃ x, x = (xs.getD k bl0).2 := ⟨_, rfl⟩
      obtain ⟨d, hd⟩ : ∃ d, d = (xs.getD k bl0).1 := ⟨_, rfl⟩
      have hxd : xs.getD k bl0 = (d, x) := by rw [hx, hd]
      rw [hxd] at HNO2 HBG2 HNX2
      rw [← hx] at d1 hsz
      rw [← hd] at d0
      have hba : Below w3.heap.size w3 (wr.alloc (.cells #[.int .i64 d, .string x] 54)) := hb.alloc hsb _
      have hoa := ho.alloc (.cells #[.int .i64 d, .string x] 54)
      have hsa := hba.size
      have hcall := HTD.out d x (wr.alloc (.cells #[.int .i64 d, .string x] 54)) (tel_below HTEL.out hba)
      obtain ⟨ao8, cap8, hv8⟩ := owns_slice ho
      subst hv8
      have HTS2 := Lib.hid (HTS.out d x · hsz)
      clear hx hd hxd c0 c1 hR ho hb
      obtain ⟨q, hq⟩ : ∃ q, q = BI (d, x) := ⟨_, rfl⟩
      rw [← hq] at hcall HNO2 HBG2 HNX2
      have HQ := Lib.hid hq
      clear hq
      cases q with
      | none =>
        have HE := Lib.hid (HNO2.out rfl)
        clear HNO2 HBG2 HNX2 HTS2 HQ hoa
        go_wp2_with fail
        refine hcall.mono ?_
        rintro e w4 ⟨rfl, hb4⟩
        have hB4 := hba.trans (hb4.mono hsa)
        have HBF := Lib.hid (HBW.out.trans (hB4.mono HBW.out.size))
        clear hcall hb4 hB4 hba d0 d1
        go_wp2
        go_ret2
        exact ⟨by rw [HE.out]; rfl, HBF.out⟩
      | some t =>
        have hts := HTS2.out t HQ.out.symm
        have HBG3 : Hid (¬ zs.length + t.size ≤ 20000 → R = none) := HBG2.out t rfl
        have HNX3 : Hid (zs.length + t.size ≤ 20000 → R = (PF (xs.drop (k + 1)) (zs ++ byts t)).map asB) := HNX2.out t rfl
        clear HNO2 HBG2 HNX2 HTS2 HQ
        by_cases hgt : 20000 - (zs.length : Int) < (t.size : Int)
        · have HE := Lib.hid (HBG3.out (by omega))
          clear HBG3 HNX3 hoa
          go_wp2_with fail
          refine hcall.mono ?_
          rintro e w4 ⟨rfl, hb4⟩
          have hB4 := hba.trans (hb4.mono hsa)
          have HBF := Lib.hid (HBW.out.trans (hB4.mono HBW.out.size))
          clear hcall hb4 hB4 hba d0 d1
          go_wp2
          go_ret2
          exact ⟨by rw [HE.out]; rfl, HBF.out⟩
        · have HNX4 := Lib.hid (HNX3.out (by omega))
          have HZB : Hid (Bytes (zs ++ byts t)) := bytes_append hzb.out (byts_bytes9 t)
          have hlen : (zs ++ byts t).length = zs.length + t.size := by rw [List.length_append, byts_len]
          clear HBG3 HNX3
          go_wp2_with fail
          refine hcall.mono ?_
          rintro e w4 ⟨rfl, hb4⟩
          have hB4 := hba.trans (hb4.mono hsa)
          have ho4 := owns_below hoa hb4
          have hs4 := hB4.size
          clear hcall hb4 hba hoa d0 d1
          go_wp2_with (at_builtin; refine Lib.wpList_append_own_string _ rfl _ _ 22 9 rfl w3.heap.size 5 i0 Try.underlying22 Try.underlying9 hi hz0 hz1 hz2 _ _ _ rfl ho4 t rfl ?c3 ?c4 ?c5 ?_)
          case c3 => unfold maxLen; omega
          case c4 => omega
          case c5 => omega
          intro v5 w5 ho5 hg5 _
          have hb5 : Below w3.heap.size w3 w5 := hB4.grown hg5 hB4.size (fun k hk => (ho4.lt k hk).1)
          have ho7 : Hid (w5.ownsRow w3.heap.size 5 1 v5 (zs ++ byts t).length (cellsByteS (zs ++ byts t))) := by
            show World.ownsRow _ _ _ _ _ _ _
            rw [hlen, cellsByteS, List.map_append]
            rw [strCells_eq] at ho5
            exact ho5
          clear ho5 hg5 ho4 hB4
          go_wp2
          go_roundw
          case rel => exact ⟨k + 1, zs ++ byts t, by omega, by go_num, by omega, HZB, HNX4, ho7.out, hb5⟩
          case measure => simp [intOf]; omega
    obtain rfl : k = L := by omega
    have HE : Hid (R = some (asB zs)) := by
      show _ = _
      rw [hR.out, HEND.out]
      rfl
    have hso := ownRow_any _ _ zs wr hzb.out ho (by omega)
    obtain ⟨z, hz⟩ : ∃ z, z = asB zs := ⟨_, rfl⟩
    rw [← hz] at HE hso
    clear hR ho hz hzb
    go_wp2_with fail
    refine hso.mono ?_
    rintro e w4 ⟨rfl, hb4⟩
    have hB4 := hb.trans (hb4.mono hsb)
    have HBF := Lib.hid (HBW.out.trans (hB4.mono HBW.out.size))
    clear hso hb4 hB4 hb
    go_wp2
    go_ret2
    exact ⟨by rw [HE.out]; rfl, HBF.out⟩
end Go.Proofs.Ytdiammehnakchac
