/- CONTRACTS: the program's loosedOnce and Loosed, the walks. -/
import Derived.Test.YtgcpdifggjkdhabLoI
namespace Go.Proofs.Ytgcpdifggjkdhab
open Go.RowKit
set_option linter.unusedVariables false
def strLen : Value → Nat
  | .string s => s.size
  | _ => 0
theorem bytes_one {z : Int} (h : 0 ≤ z ∧ z ≤ 255) : Bytes [z] := fun x hx => by rw [List.mem_singleton.1 hx]; exact h

set_option maxHeartbeats 4000000 in
set_option maxRecDepth 100000 in
theorem loosedOnce_any (B : Nat) (v : Value) (acc : List Int) (t : ByteArray) (w : World) (hB : B ≤ w.heap.size) (ho : w.ownsRow B 5 1 v acc.length (cellsByteS acc)) (hal : acc.length ≤ 20000) (hby : Bytes acc) (ht : 0 < t.size) (hts : t.size ≤ 9223372036854775807) :
    Calls Try.prog 86 #[v, .string t] w fun e w' => ∃ (v' : Value) (tk : Nat), e = .returned (.tuple #[v', .int .i64 (tk : Int)]) ∧ tk ≤ t.size ∧ Below B w w' ∧ ((tk = 0 ∧ Sq.lo (byts t) acc = none) ∨ (1 ≤ tk ∧ ∃ c, Bytes c ∧ c.length ≤ 20060 ∧ w'.ownsRow B 5 1 v' c.length (cellsByteS c) ∧ Sq.lo (byts t) acc = Sq.lo ((byts t).drop tk) c)) := by
  obtain ⟨i0, hi, hz0, hz1, hz2⟩ := info_parts Try.infoB
  have HBL : Hid ((byts t).length = t.size) := byts_len t
  have h0L : 0 < (byts t).length := by rw [HBL.out]; exact ht
  have hxs := str_atI t 0 0 rfl ht
  have hxr := byts_range t 0
  have hpf := pf_any t ⟨#[1, 0]⟩ w hts (by decide)
  rw [pref10_eq] at hpf
  have HPF := Lib.hid hpf
  clear hpf
  by_cases hx1 : (byts t).getD 0 0 = 1
  rotate_left
  focus
    have HS : Hid (Sq.lo (byts t) acc = Sq.lo ((byts t).drop 1) (acc ++ [(byts t).getD 0 0])) := Sq.at_byte hal h0L hx1
    obtain ⟨z, hz⟩ : ∃ z, z = (byts t).getD 0 0 := ⟨_, rfl⟩
    rw [← hz] at hxs hxr HS hx1
    have HBY : Hid (Bytes (acc ++ [z])) := bytes_append hby (bytes_one hxr)
    have hx1I : (z == 1) = false := by simp [hx1]
    have hx1J : (z != 1) = true := by simp [hx1]
    clear hz hby h0L HPF
    go_enter Try.func86, Try.ntmps86
    go_wp2_with (at_builtin; refine wpList_append_own _ rfl _ _ 22 rfl B 5 i0 (.int .u8 0) 1 1 Try.underlying22 hi hz0 hz1 hz2 rfl (by decide) _ _ _ rfl (ho.alloc _) ⟨w.heap.size, 0, none⟩ 1 1 [.int .u8 z] rfl rfl (row_cells w .u8 [z] _) (ints_oneCell .u8 [z]) (by unfold maxLen; omega) (by omega) (by rw [World.size_alloc]; omega) ?_)
    intro v3 w3 ho3 hg3 _
    have HB3 : Hid (Below B w w3) := ((Below.refl B w).alloc hB _).grown hg3 (by rw [World.size_alloc]; omega) (fun g h => (ho.lt g h).1)
    have ho4 : w3.ownsRow B 5 1 v3 (acc ++ [z]).length (cellsByteS (acc ++ [z])) := by simpa using ho3
    have hlen : (acc ++ [z]).length = acc.length + 1 := by rw [List.length_append]; rfl
    have HO4 := Lib.hid ho4
    clear ho3 hg3 ho ho4
    go_wp2
    go_ret2
    exact ⟨v3, 1, rfl, by omega, HB3.out, Or.inr ⟨by omega, acc ++ [z], HBY.out, by omega, HO4.out, HS.out⟩⟩
  rw [hx1] at hxs
  clear hxr
  have hl1 : t.size = 1 → Sq.lo (byts t) acc = none := fun h => Sq.at_cut hal h0L hx1 (by rw [HBL.out]; omega)
  have HL1 := Lib.hid hl1
  clear hl1
  cases hp : pref10 t with
  | true =>
    have hp2 := of_decide_eq_true hp
    have HS : Hid (Sq.lo (byts t) acc = Sq.lo ((byts t).drop 2) (acc ++ [1])) := Sq.at_one hal h0L hx1 (by rw [HBL.out]; omega) hp2.2.2
    have h2 := hp2.1
    rw [hp] at HPF
    have HBY : Hid (Bytes (acc ++ [1])) := bytes_append hby (bytes_one (by omega))
    clear hp hp2 hby h0L hx1 HL1
    go_enter Try.func86, Try.ntmps86
    go_wp2_with fail
    refine HPF.out.mono ?_
    rintro e u ⟨rfl, hu⟩
    replace hu := hu.symm
    subst hu
    go_wp2_with (at_builtin; refine wpList_append_own _ rfl _ _ 22 rfl B 5 i0 (.int .u8 0) 1 1 Try.underlying22 hi hz0 hz1 hz2 rfl (by decide) _ _ _ rfl (ho.alloc _) ⟨w.heap.size, 0, none⟩ 1 1 [.int .u8 1] rfl rfl (row_cells w .u8 [1] _) (ints_oneCell .u8 [1]) (by unfold maxLen; omega) (by omega) (by rw [World.size_alloc]; omega) ?_)
    intro v3 w3 ho3 hg3 _
    have HB3 : Hid (Below B w w3) := ((Below.refl B w).alloc hB _).grown hg3 (by rw [World.size_alloc]; omega) (fun g h => (ho.lt g h).1)
    have ho4 : w3.ownsRow B 5 1 v3 (acc ++ [1]).length (cellsByteS (acc ++ [1])) := by simpa using ho3
    have hlen : (acc ++ [1]).length = acc.length + 1 := by rw [List.length_append]; rfl
    have HO4 := Lib.hid ho4
    clear ho3 hg3 ho ho4
    go_wp2
    go_ret2
    exact ⟨v3, 2, rfl, by omega, HB3.out, Or.inr ⟨by omega, acc ++ [1], HBY.out, by omega, HO4.out, HS.out⟩⟩
  | false =>
    have hnp := of_decide_eq_false hp
    rw [hp] at HPF
    clear hp
    by_cases h3 : t.size < 3
    focus
      have hnone : Sq.lo (byts t) acc = none := by
        by_cases h2 : t.size = 1
        · exact HL1.out h2
        · exact Sq.at_cut2 hal h0L hx1 (by rw [HBL.out]; omega) (fun h => hnp ⟨by omega, hx1, h⟩) (by rw [HBL.out]; omega)
      have HN := Lib.hid hnone
      have h3I : (t.size : Int) < 3 := by omega
      clear hnone hnp hby h0L hx1 HL1 ho
      go_enter Try.func86, Try.ntmps86
      go_wp2_with fail
      refine HPF.out.mono ?_
      rintro e u ⟨rfl, hu⟩
      replace hu := hu.symm
      subst hu
      go_wp2
      go_ret2
      exact ⟨v, 0, rfl, by omega, Below.refl _ _, Or.inl ⟨rfl, HN.out⟩⟩
    have h3I : ¬ (t.size : Int) < 3 := by omega
    have h1L : 0 + 1 < (byts t).length := by rw [HBL.out]; omega
    have h2L : 0 + 2 < (byts t).length := by rw [HBL.out]; omega
    have hn0 : (byts t).getD (0 + 1) 0 ≠ 0 := fun h => hnp ⟨by omega, hx1, h⟩
    have hns := str_atI t 1 1 rfl (by omega)
    have hds := str_atI t 2 2 rfl (by omega)
    have hnr := byts_range t 1
    have hdr := byts_range t 2
    obtain ⟨n, hn⟩ : ∃ n : Nat, (byts t).getD 1 0 = (n : Int) := ⟨_, (Int.toNat_of_nonneg hnr.1).symm⟩
    obtain ⟨d, hd⟩ : ∃ d : Nat, (byts t).getD 2 0 = (d : Int) := ⟨_, (Int.toNat_of_nonneg hdr.1).symm⟩
    rw [hn] at hns hnr
    rw [hd] at hds hdr
    have HNN : Hid ((byts t).getD (0 + 1) 0 = (n : Int)) := hn
    have HDD : Hid ((byts t).getD (0 + 2) 0 = (d : Int)) := hd
    have HX1 := Lib.hid hx1
    have HN0 := Lib.hid hn0
    clear hn hd hnp HL1 hx1 hn0
    obtain ⟨m0, hm0⟩ : ∃ m0, m0 = acc.length := ⟨_, rfl⟩
    have HM0 := Lib.hid hm0
    have HFAR : Hid (57 < n → Sq.lo (byts t) acc = none) := fun h => Sq.at_far hal h0L HX1.out h1L (by rw [HNN.out]; omega)
    have HBAD : Hid ((d < 1 ∨ 200 < d ∨ m0 < d) → Sq.lo (byts t) acc = none) := fun h => Sq.at_bad hal h0L HX1.out h1L HN0.out h2L (by rw [HDD.out]; omega)
    have HMORE : Hid (¬ 57 < n → ¬ (d < 1 ∨ 200 < d ∨ m0 < d) → Sq.lo (byts t) acc = Sq.lo ((byts t).drop 3) (Sq.copyN acc d (n + 3))) := fun h h' => by
      have h4 := Sq.at_more hal h0L HX1.out h1L HN0.out (by rw [HNN.out]; omega) h2L (by rw [HDD.out]; omega)
      rw [HDD.out, HNN.out] at h4
      exact h4
    rw [← hm0] at ho hal
    obtain ⟨ao, cap, rfl⟩ := slice_of ho
    have hmn : (if (m0 : Int) < 200 then (m0 : Int) else 200) = ((min 200 m0 : Nat) : Int) := by split <;> omega
    clear hm0 h0L h1L h2L
    by_cases h57 : 57 < n
    focus
      have HN := Lib.hid (HFAR.out h57)
      have h57I : (60 : Int) < (n : Int) + 3 := by omega
      clear HFAR HBAD HMORE ho hby hmn
      go_enter Try.func86, Try.ntmps86
      go_wp2_with fail
      refine HPF.out.mono ?_
      rintro e u ⟨rfl, hu⟩
      replace hu := hu.symm
      subst hu
      go_wp2
      go_quiet (fail)
      go_wp2
      go_ret2
      exact ⟨_, 0, rfl, by omega, below_drewN (Below.refl _ _) _, Or.inl ⟨rfl, HN.out⟩⟩
    have h57I : ¬ (60 : Int) < (n : Int) + 3 := by omega
    have hn57 : n ≤ 57 := by omega
    obtain ⟨mn, hmn2⟩ : ∃ mn, mn = min 200 m0 := ⟨_, rfl⟩
    rw [← hmn2] at hmn
    have HMN := Lib.hid hmn2
    by_cases hbd : d < 1 ∨ 200 < d ∨ m0 < d
    focus
      have HN := Lib.hid (HBAD.out hbd)
      clear HFAR HBAD HMORE ho hby h57
      by_cases hd1 : d < 1
      focus
        have e1 : (d : Int) < 1 := by omega
        clear hmn hmn2
        go_enter Try.func86, Try.ntmps86
        go_wp2_with fail
        refine HPF.out.mono ?_
        rintro e u ⟨rfl, hu⟩
        replace hu := hu.symm
        subst hu
        go_wp2
        go_quiet (fail)
        go_wp2
        go_ret2
        exact ⟨_, 0, rfl, by omega, below_drewN (Below.refl _ _) _, Or.inl ⟨rfl, HN.out⟩⟩
      have e1 : ¬ (d : Int) < 1 := by omega
      have e2 : (mn : Int) < (d : Int) := by omega
      clear hmn2 hbd
      go_enter Try.func86, Try.ntmps86
      go_wp2_with fail
      refine HPF.out.mono ?_
      rintro e u ⟨rfl, hu⟩
      replace hu := hu.symm
      subst hu
      go_wp2
      go_quiet (fail)
      go_wp2
      go_ret2
      exact ⟨_, 0, rfl, by omega, below_drewN (Below.refl _ _) _, Or.inl ⟨rfl, HN.out⟩⟩
    have e1 : ¬ (d : Int) < 1 := by omega
    have e2 : ¬ (mn : Int) < (d : Int) := by omega
    have HS := Lib.hid (HMORE.out h57 hbd)
    have HCB : Hid (∀ j, Bytes (Sq.copyN acc d j)) := Sq.copy_bytes acc d hby
    have HCL : Hid (∀ j, (Sq.copyN acc d j).length = m0 + j) := fun j => by rw [Sq.copyN_len, HM0.out]
    have hd1 : 1 ≤ d := by omega
    have hda : d ≤ m0 := by omega
    have hd200 : d ≤ 200 := by omega
    have hts3 : 3 ≤ t.size := by omega
    clear HFAR HBAD HMORE hby h57 hbd hmn2 hnr hdr
    go_enter Try.func86, Try.ntmps86
    go_wp2_with fail
    refine HPF.out.mono ?_
    rintro e u ⟨rfl, hu⟩
    replace hu := hu.symm
    subst hu
    go_wp2
    go_quiet (fail)
    go_wp2
    go_loopw [0, 50] (fun p i wr => ∃ (j m : Nat), i = .int .i64 j ∧ j ≤ n + 3 ∧ m = m0 + j ∧ wr.ownsRow B 5 1 p m (cellsByteS (Sq.copyN acc d j)) ∧ Hid (Below B w wr)) (fun _ i _ => n + 3 - (intOf i).toNat)
    case atStart => exact ⟨0, m0, rfl, Nat.zero_le _, rfl, owns_below ho (below_drewN (Below.refl _ _) _), below_drewN (Below.refl _ _) _⟩
    case round =>
      rename World => w2
      obtain ⟨j, m, rfl, hj, hm, ho2, hb2⟩ := hrel
      have hs2 := hb2.out.size
      clear ho
      have HMm := Lib.hid hm
      have hmb : m ≤ 20060 := by omega
      have hdm : d ≤ m := by omega
      clear hm
      obtain ⟨g, cap2, rfl, hg⟩ := owns_head ho2 (by omega)
      by_cases hjn : j < n + 3
      focus
        have hjI : (j : Int) < (n : Int) + 3 := by omega
        obtain ⟨q, hq⟩ : ∃ q : Nat, (m : Int) - (d : Int) = (q : Int) := ⟨m - d, by omega⟩
        have hqm : q < m := by omega
        have hcell : w2.cell? ⟨g, q, none⟩ = some (.int .u8 ((Sq.copyN acc d j).getD q 0)) := by
          rw [ho2.cellAt q (by omega), ints_get _ _ q (by rw [HCL.out, ← HMm.out]; exact hqm)]
        have hcn : Hid (Sq.copyN acc d (j + 1) = Sq.copyN acc d j ++ [(Sq.copyN acc d j).getD q 0]) := by
          show _ = _
          rw [Sq.copyN, HCL.out, ← HMm.out, show m - d = q by omega]
        obtain ⟨z, hz⟩ : ∃ z, z = (Sq.copyN acc d j).getD q 0 := ⟨_, rfl⟩
        rw [← hz] at hcell hcn
        clear hz
        go_wp2_with (at_builtin; refine wpList_append_own _ rfl _ _ 22 rfl B 5 i0 (.int .u8 0) 1 1 Try.underlying22 hi hz0 hz1 hz2 rfl (by decide) _ _ _ rfl (ho2.alloc _) ⟨w2.heap.size, 0, none⟩ 1 1 [.int .u8 z] rfl rfl (row_cells w2 .u8 [z] _) (ints_oneCell .u8 [z]) (by unfold maxLen; omega) (by omega) (by rw [World.size_alloc]; omega) ?_)
        intro v3 w3 ho3 hg3 _
        have HB3 : Hid (Below B w w3) := (hb2.out.alloc (by omega) _).grown hg3 (by rw [World.size_alloc]; omega) (fun g h => (ho2.lt g h).1)
        have ho4 : w3.ownsRow B 5 1 v3 (m + 1) (cellsByteS (Sq.copyN acc d (j + 1))) := by
          rw [hcn.out, cellsByteS, List.map_append]
          exact ho3
        have hm1 : m + 1 = m0 + (j + 1) := by have := HMm.out; omega
        clear ho3 hg3 ho2 hb2
        go_wp2
        go_roundw
        case rel => exact ⟨j + 1, m + 1, by go_num, by omega, hm1, ho4, HB3⟩
        case measure => simp [intOf]; omega
      obtain rfl : j = n + 3 := by omega
      have hcl := HCL.out (n + 3)
      have hcb := Lib.hid (HCB.out (n + 3))
      have hml : m = (Sq.copyN acc d (n + 3)).length := by rw [hcl]; exact HMm.out
      generalize Sq.copyN acc d (n + 3) = c at HS ho2 hcb hml
      have HML := Lib.hid hml
      have HO2 := Lib.hid ho2
      have hjI : ¬ ((n : Int) + 3 < (n : Int) + 3) := by omega
      clear hcl hml HMm HCL HCB ho2
      go_wp2
      go_ret2
      exact ⟨_, 3, rfl, hts3, hb2.out, Or.inr ⟨by omega, c, hcb.out, by rw [← HML.out]; exact hmb, by rw [← HML.out]; exact HO2.out, HS.out⟩⟩
set_option maxHeartbeats 2000000 in
set_option maxRecDepth 100000 in
theorem implLoosed_any (t : ByteArray) (w : World) (hs : t.size ≤ 9223372036854775807) :
    Calls Try.prog 40 #[.string t] w fun e w' => e = .returned (loV (loT t)) ∧ Below w.heap.size w w' := by
  unfold loT
  obtain ⟨R, hR⟩ : ∃ R, R = Sq.lo (byts t) [] := ⟨_, rfl⟩
  rw [← hR]
  have HR0 : Hid (Sq.lo (byts t) [] = R) := hR.symm
  have HNONE : Hid (R = none → Ending.returned (.tuple #[.string ⟨#[]⟩, .bool false]) = .returned (loV (R.map asB))) := fun h => by rw [h]; rfl
  have HSOME : Hid (∀ acc, R = some acc → Ending.returned (.tuple #[.string (asB acc), .bool true]) = .returned (loV (R.map asB))) := fun acc h => by rw [h]; rfl
  clear hR
  go_enter Try.func40, Try.ntmps40
  go_wp2
  go_loopw [0, 4] (fun r p wr => ∃ (r' : ByteArray) (acc : List Int), r = .string r' ∧ r'.size ≤ 9223372036854775807 ∧ wr.ownsRow w.heap.size 5 1 p acc.length (cellsByteS acc) ∧ acc.length ≤ 20000 ∧ Hid (Bytes acc) ∧ Hid (Sq.lo (byts r') acc = R) ∧ Hid (Below w.heap.size w wr)) (fun r _ _ => strLen r)
  case atStart => exact ⟨t, [], rfl, hs, World.ownsRow_nil _ _ _ _, by simp, fun x hx => (by cases hx), HR0, Below.refl _ _⟩
  case round =>
    rename World => w1
    obtain ⟨r, acc, rfl, hr, ho, hal, hby, hlo, hb⟩ := hrel
    have hs1 := hb.out.size
    clear HR0
    by_cases h0 : r.size = 0
    focus
      have hr0 : r = ⟨#[]⟩ := by
        apply ByteArray.ext
        exact Array.eq_empty_of_size_eq_zero h0
      have hE := hlo.out
      rw [hr0] at hE
      rw [show byts ⟨#[]⟩ = [] from rfl, Sq.lo_nil (by omega)] at hE
      have HN := HSOME.out acc hE.symm
      have hown := Lib.hid (ownRow_any w.heap.size _ acc w1 hby.out ho (by omega))
      subst hr0
      clear hE hlo HSOME HNONE hby h0 ho
      go_wp2_with fail
      refine hown.out.mono ?_
      rintro e w2 ⟨rfl, hb2⟩
      have HB := hb.out.trans (hb2.mono hs1)
      go_wp2
      go_ret2
      exact ⟨HN, HB⟩
    have hne : ¬ r.toList = [] := fun e => h0 (by
      have := same_of (a := r) (b := ⟨#[]⟩) (by rw [e]; simp)
      rw [this]
      rfl)
    have hne2 : (r.toList == []) = false := by simp [hne]
    have hcall := Lib.hid (loosedOnce_any w.heap.size _ acc r w1 hs1 ho hal hby.out (by omega) hr)
    clear ho hby
    go_wp2_with fail
    refine hcall.out.mono ?_
    rintro e w2 ⟨v', tk, rfl, htk, hb2, hcase⟩
    have HB2 := Lib.hid (hb.out.trans hb2)
    clear hcall hb2
    rcases hcase with ⟨rfl, hno⟩ | ⟨htk1, c, hcb, hcl, ho2, hlo2⟩
    focus
      have HN := HNONE.out (hlo.out.symm.trans hno)
      clear hno hlo HNONE HSOME
      go_wp2
      go_ret2
      exact ⟨HN, HB2.out⟩
    have HS : Hid (Sq.lo ((byts r).drop tk) c = R) := hlo2.symm.trans hlo.out
    have HCB : Hid (Bytes c) := hcb
    have htI : ((tk : Int) == 0) = false := by simp; omega
    have htJ : ¬ (tk : Int) = 0 := by omega
    obtain ⟨ao, cap, rfl⟩ := slice_of ho2
    clear hcb hlo2 hlo
    by_cases hbig : 20000 < c.length
    focus
      have HN := HNONE.out (by rw [← HS.out]; exact Sq.lo_big hbig)
      have hbI : (20000 : Int) < (c.length : Int) := by omega
      clear HS HNONE HSOME ho2
      go_wp2
      go_ret2
      exact ⟨HN, HB2.out⟩
    have hbI : ¬ (20000 : Int) < (c.length : Int) := by omega
    have hsl : ∀ W : World, (Instr.slice 9 (.string r) (some (.int .i64 (tk : Int))) none none).run Try.prog W = .ok (.string (r.extract tk r.size)) W := fun W => by
      rw [run_slice_string_l W 9 r Try.underlying9 .i64 _ (by omega) (by omega), Int.toNat_natCast]
    have hbe : byts (r.extract tk r.size) = (byts r).drop tk := by
      rw [byts_cut, List.take_of_length_le]
      rw [List.length_drop, byts_len]
      omega
    have hre : (r.extract tk r.size).size = r.size - tk := by
      have := congrArg List.length hbe
      rw [byts_len, List.length_drop, byts_len] at this
      exact this
    rw [← hbe] at HS
    have HO2 := Lib.hid ho2
    generalize r.extract tk r.size = r2 at hsl HS hre
    clear hbe ho2
    go_wp2
    go_quiet (fail)
    go_wp2
    go_roundw
    case rel => exact ⟨r2, c, rfl, by omega, owns_below HO2.out (below_drewN (Below.refl _ _) _), by omega, HCB, HS, below_drewN HB2.out _⟩
    case measure => simp [strLen]; omega
end Go.Proofs.Ytgcpdifggjkdhab
