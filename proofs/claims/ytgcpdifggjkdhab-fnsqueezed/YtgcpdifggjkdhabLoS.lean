/- CONTRACTS: the specification's Loosed. -/
import Derived.Test.YtgcpdifggjkdhabSqS
namespace Go.Proofs.Ytgcpdifggjkdhab
open Go.RowKit
set_option linter.unusedVariables false
namespace Sq
theorem drop_at {L : List Int} {k : Nat} (h : k < L.length) : L.drop k = L.getD k 0 :: L.drop (k + 1) := by
  rw [List.drop_eq_getElem_cons h]; simp [List.getD, h]
theorem at_byte {L acc : List Int} {k : Nat} (h20 : acc.length ≤ 20000) (hk : k < L.length) (hx : L.getD k 0 ≠ 1) : lo (L.drop k) acc = lo (L.drop (k + 1)) (acc ++ [L.getD k 0]) := by
  rw [drop_at hk, lo_byte (by omega) hx]
theorem at_cut {L acc : List Int} {k : Nat} (h20 : acc.length ≤ 20000) (hk : k < L.length) (hx : L.getD k 0 = 1) (h1 : ¬ k + 1 < L.length) : lo (L.drop k) acc = none := by
  rw [drop_at hk, hx, List.drop_of_length_le (by omega), lo_cut (by omega)]
theorem at_one {L acc : List Int} {k : Nat} (h20 : acc.length ≤ 20000) (hk : k < L.length) (hx : L.getD k 0 = 1) (h1 : k + 1 < L.length) (hn : L.getD (k + 1) 0 = 0) : lo (L.drop k) acc = lo (L.drop (k + 2)) (acc ++ [1]) := by
  rw [drop_at hk, hx, drop_at h1, hn, lo_one (by omega)]
theorem at_far {L acc : List Int} {k : Nat} (h20 : acc.length ≤ 20000) (hk : k < L.length) (hx : L.getD k 0 = 1) (h1 : k + 1 < L.length) (hn : 57 < L.getD (k + 1) 0) : lo (L.drop k) acc = none := by
  rw [drop_at hk, hx, drop_at h1]
  by_cases h2 : k + 1 + 1 < L.length
  · rw [drop_at h2, lo_bad (by omega) (by omega) (Or.inl hn)]
  · rw [List.drop_of_length_le (by omega), lo_cut2 (by omega) (by omega)]
theorem at_cut2 {L acc : List Int} {k : Nat} (h20 : acc.length ≤ 20000) (hk : k < L.length) (hx : L.getD k 0 = 1) (h1 : k + 1 < L.length) (hn : L.getD (k + 1) 0 ≠ 0) (h2 : ¬ k + 2 < L.length) : lo (L.drop k) acc = none := by
  rw [drop_at hk, hx, drop_at h1, List.drop_of_length_le (by omega), lo_cut2 (by omega) hn]
theorem at_bad {L acc : List Int} {k : Nat} (h20 : acc.length ≤ 20000) (hk : k < L.length) (hx : L.getD k 0 = 1) (h1 : k + 1 < L.length) (hn : L.getD (k + 1) 0 ≠ 0) (h2 : k + 2 < L.length)
    (hb : L.getD (k + 2) 0 < 1 ∨ 200 < L.getD (k + 2) 0 ∨ (acc.length : Int) < L.getD (k + 2) 0) : lo (L.drop k) acc = none := by
  rw [drop_at hk, hx, drop_at h1, drop_at (show k + 1 + 1 < L.length from h2), lo_bad (by omega) hn (Or.inr hb)]
theorem at_more {L acc : List Int} {k : Nat} (h20 : acc.length ≤ 20000) (hk : k < L.length) (hx : L.getD k 0 = 1) (h1 : k + 1 < L.length) (hn : L.getD (k + 1) 0 ≠ 0) (hn2 : ¬ 57 < L.getD (k + 1) 0) (h2 : k + 2 < L.length)
    (hb : ¬ (L.getD (k + 2) 0 < 1 ∨ 200 < L.getD (k + 2) 0 ∨ (acc.length : Int) < L.getD (k + 2) 0)) : lo (L.drop k) acc = lo (L.drop (k + 3)) (copyN acc (L.getD (k + 2) 0).toNat ((L.getD (k + 1) 0).toNat + 3)) := by
  rw [drop_at hk, hx, drop_at h1, drop_at (show k + 1 + 1 < L.length from h2), lo_more (by omega) hn (fun h => h.elim hn2 hb)]
theorem copy_bytes (out : List Int) (d : Nat) (ho : Bytes out) : ∀ k, Bytes (copyN out d k)
  | 0 => ho
  | k + 1 => fun x hx => by
    rw [copyN] at hx
    rcases List.mem_append.1 hx with hx | hx
    · exact copy_bytes out d ho k x hx
    · rw [List.mem_singleton.1 hx]
      exact bytes_get (copy_bytes out d ho k) _
end Sq
/-- what Loosed tells -/
def loT (t : ByteArray) : Option ByteArray := (Sq.lo (byts t) []).map asB
def loV (o : Option ByteArray) : Value := .tuple #[.string (o.getD ⟨#[]⟩), .bool o.isSome]
theorem ret_lo {a b : Value} (h : a = b) : Ending.returned a = .returned b := by rw [h]

set_option maxHeartbeats 4000000 in
set_option maxRecDepth 100000 in
theorem specLoosed_any (t : ByteArray) (w : World) (hs : t.size ≤ 9223372036854775807) :
    Calls Try.prog 41 #[.string t] w fun e w' => e = .returned (loV (loT t)) ∧ Below w.heap.size w w' := by
  obtain ⟨i0, hi, hz0, hz1, hz2⟩ := info_parts Try.infoB
  have HBL : Hid ((byts t).length = t.size) := byts_len t
  have hmade : (w.alloc (.cells #[] 5)).ownsRow w.heap.size 5 1 (.slice (some ⟨w.heap.size, 0, none⟩) 0 0) 0 (cellsByteS []) := World.ownsRow_lit w #[] 0 (Nat.le_refl _) (Nat.zero_le _) rfl
  have hb0 : Hid (Below w.heap.size w (w.alloc (.cells #[] 5))) := (Below.refl _ _).alloc (Nat.le_refl _) _
  unfold loT
  obtain ⟨R, hR⟩ : ∃ R, R = Sq.lo (byts t) [] := ⟨_, rfl⟩
  rw [← hR]
  have HR0 : Hid (Sq.lo ((byts t).drop 0) [] = R) := hR.symm
  have HNONE : Hid (R = none → Ending.returned (.tuple #[.string ⟨#[]⟩, .bool false]) = .returned (loV (R.map asB))) := fun h => by rw [h]; rfl
  have HSOME : Hid (∀ acc, R = some acc → Ending.returned (.tuple #[.string (asB acc), .bool true]) = .returned (loV (R.map asB))) := fun acc h => by rw [h]; rfl
  clear hR
  go_enter Try.func41, Try.ntmps41
  go_wp2
  go_loopw [4, 5] (fun p i wr => ∃ (k : Nat) (acc : List Int), i = .int .i64 k ∧ k ≤ t.size ∧ wr.ownsRow w.heap.size 5 1 p acc.length (cellsByteS acc) ∧ acc.length ≤ 20000 ∧ Hid (Bytes acc) ∧ Hid (Sq.lo ((byts t).drop k) acc = R) ∧ Hid (Below w.heap.size w wr)) (fun _ i _ => t.size - (intOf i).toNat)
  case atStart => exact ⟨0, [], rfl, Nat.zero_le _, hmade, by simp, fun x hx => (by cases hx), HR0, hb0⟩
  case round =>
    rename World => w1
    obtain ⟨k, acc, rfl, hk, ho, hal, hby, hlo, hb⟩ := hrel
    obtain ⟨ao, cap, rfl⟩ := slice_of ho
    have hs1 := hb.out.size
    clear hmade hb0 HR0
    by_cases hlt : k < t.size
    focus
      have hkL : k < (byts t).length := by rw [HBL.out]; exact hlt
      have hlI : (k : Int) < (t.size : Int) := by omega
      have hxs := str_at t k hlt
      have hxr := byts_range t k
      have HX : Hid (∃ z, z = (byts t).getD k 0) := ⟨_, rfl⟩
      by_cases hx1 : (byts t).getD k 0 = 1
      focus
        rw [hx1] at hxs
        clear hxr HX
        by_cases h1 : k + 1 < t.size
        focus
          have h1L : k + 1 < (byts t).length := by rw [HBL.out]; exact h1
          have h1I : ¬ ((t.size : Int) ≤ (k : Int) + 1) := by omega
          have hns := str_atI t (k + 1) ((k : Int) + 1) (by omega) h1
          have hnr := byts_range t (k + 1)
          by_cases hn0 : (byts t).getD (k + 1) 0 = 0
          focus
            have HS : Hid (Sq.lo ((byts t).drop (k + 2)) (acc ++ [1]) = R) := by
              show _ = _
              rw [← hlo.out, Sq.at_one hal hkL hx1 h1L hn0]
            rw [hn0] at hns
            have hby2 : Hid (Bytes (acc ++ [1])) := bytes_append hby.out (fun x hx => by rw [List.mem_singleton.1 hx]; omega)
            clear hlo hnr hby hkL h1L hx1 hn0
            go_wp2_with (at_builtin; refine wpList_append_own _ rfl _ _ 22 rfl w.heap.size 5 i0 (.int .u8 0) 1 1 Try.underlying22 hi hz0 hz1 hz2 rfl (by decide) _ _ _ rfl (ho.alloc _) ⟨w1.heap.size, 0, none⟩ 1 1 [.int .u8 1] rfl rfl (row_cells w1 .u8 [1] _) (ints_oneCell .u8 [1]) (by unfold maxLen; omega) (by omega) (by rw [World.size_alloc]; omega) ?_)
            intro v3 w3 ho3 hg3 _
            have HB3 : Hid (Below w.heap.size w w3) := (hb.out.alloc hs1 _).grown hg3 (by rw [World.size_alloc]; omega) (fun g h => (ho.lt g h).1)
            have ho4 : w3.ownsRow w.heap.size 5 1 v3 (acc ++ [1]).length (cellsByteS (acc ++ [1])) := by simpa using ho3
            obtain ⟨ao3, cap3, rfl⟩ := slice_of ho3
            have hlen : (acc ++ [1]).length = acc.length + 1 := by rw [List.length_append]; rfl
            clear ho3 hg3 ho hb
            by_cases hbig : 20000 < acc.length + 1
            focus
              have HN := HNONE.out (by rw [← HS.out]; exact Sq.lo_big (by rw [hlen]; exact hbig))
              have hbI : (20000 : Int) < (acc.length : Int) + 1 := by omega
              clear HS hlen ho4 HNONE HSOME
              go_wp2
              go_ret2
              exact ⟨HN, HB3.out⟩
            have hbI : ¬ (20000 : Int) < (acc.length : Int) + 1 := by omega
            go_wp2
            go_roundw
            case rel => exact ⟨k + 2, acc ++ [1], by go_num, by omega, by rw [hlen] at ho4 ⊢; exact ho4, by rw [hlen]; omega, hby2, HS, HB3⟩
            case measure => simp [intOf]; omega
          obtain ⟨n, hn⟩ : ∃ n : Nat, (byts t).getD (k + 1) 0 = (n : Int) := ⟨_, (Int.toNat_of_nonneg hnr.1).symm⟩
          have HNE : Hid ((byts t).getD (k + 1) 0 ≠ 0) := hn0
          rw [hn] at hns hnr hn0
          have HNN := Lib.hid hn
          have hn0I : ((n : Int) == 0) = false := by simp; omega
          have hn0J : ¬ (n : Int) = 0 := by omega
          clear hn hn0
          by_cases h57 : 57 < n
          focus
            have HN := HNONE.out (by rw [← hlo.out]; exact Sq.at_far hal hkL hx1 h1L (by rw [HNN.out]; omega))
            have h57I : (57 : Int) < (n : Int) := by omega
            clear hlo hkL h1L HNONE HSOME ho hx1
            go_wp2
            go_ret2
            exact ⟨HN, hb.out⟩
          have h57I : ¬ (57 : Int) < (n : Int) := by omega
          by_cases h2 : k + 2 < t.size
          rotate_left
          focus
            have HN := HNONE.out (by rw [← hlo.out]; exact Sq.at_cut2 hal hkL hx1 h1L HNE.out (by rw [HBL.out]; exact h2))
            have h2I : (t.size : Int) ≤ (k : Int) + 2 := by omega
            clear hlo hkL h1L HNONE HSOME ho hx1
            go_wp2
            go_ret2
            exact ⟨HN, hb.out⟩
          have h2L : k + 2 < (byts t).length := by rw [HBL.out]; exact h2
          have h2I : ¬ (t.size : Int) ≤ (k : Int) + 2 := by omega
          have hds := str_atI t (k + 2) ((k : Int) + 2) (by omega) h2
          have hdr := byts_range t (k + 2)
          obtain ⟨d, hd⟩ : ∃ d : Nat, (byts t).getD (k + 2) 0 = (d : Int) := ⟨_, (Int.toNat_of_nonneg hdr.1).symm⟩
          rw [hd] at hds hdr
          have HDD := Lib.hid hd
          clear hd
          by_cases hbd : d < 1 ∨ 200 < d ∨ acc.length < d
          focus
            have HN := HNONE.out (by rw [← hlo.out]; exact Sq.at_bad hal hkL hx1 h1L HNE.out h2L (by rw [HDD.out]; omega))
            clear hlo hkL h1L h2L HNONE HSOME ho hx1
            by_cases hd1 : d < 1
            focus
              have e1 : (d : Int) < 1 := by omega
              go_wp2
              go_ret2
              exact ⟨HN, hb.out⟩
            have e1 : ¬ (d : Int) < 1 := by omega
            by_cases hd2 : 200 < d
            focus
              have e2 : (200 : Int) < (d : Int) := by omega
              go_wp2
              go_ret2
              exact ⟨HN, hb.out⟩
            have e2 : ¬ (200 : Int) < (d : Int) := by omega
            have e3 : (acc.length : Int) < (d : Int) := by omega
            go_wp2
            go_ret2
            exact ⟨HN, hb.out⟩
          have e1 : ¬ (d : Int) < 1 := by omega
          have e2 : ¬ (200 : Int) < (d : Int) := by omega
          have e3 : ¬ (acc.length : Int) < (d : Int) := by omega
          have HS : Hid (Sq.lo ((byts t).drop (k + 3)) (Sq.copyN acc d (n + 3)) = R) := by
            show _ = _
            have h := Sq.at_more hal hkL hx1 h1L HNE.out (by rw [HNN.out]; omega) h2L (by rw [HDD.out]; omega)
            rw [HDD.out, HNN.out] at h
            rw [← hlo.out, h]
            rfl
          have HCB : Hid (∀ j, Bytes (Sq.copyN acc d j)) := Sq.copy_bytes acc d hby.out
          have HCL : Hid (∀ j, (Sq.copyN acc d j).length = acc.length + j) := Sq.copyN_len acc d
          have hd1 : 1 ≤ d := by omega
          have hda : d ≤ acc.length := by omega
          have hd200 : d ≤ 200 := by omega
          have hn57 : n ≤ 57 := by omega
          clear hlo hkL h1L h2L hx1 hby hbd h57 hnr hdr
          obtain ⟨m0, hm0⟩ : ∃ m0, m0 = acc.length := ⟨_, rfl⟩
          have HM0 := Lib.hid hm0
          rw [← hm0] at ho hal hda e3 HCL ⊢
          clear hm0
          go_wp2
          go_loopw [4, 8] (fun p i wr => ∃ (j m : Nat), i = .int .i64 j ∧ j ≤ n + 3 ∧ m = m0 + j ∧ wr.ownsRow w.heap.size 5 1 p m (cellsByteS (Sq.copyN acc d j)) ∧ Hid (Below w.heap.size w wr)) (fun _ i _ => n + 3 - (intOf i).toNat)
          case atStart => exact ⟨0, m0, rfl, Nat.zero_le _, rfl, ho, hb⟩
          case round =>
            rename World => w2
            obtain ⟨j, m, rfl, hj, hm, ho2, hb2⟩ := hrel
            have hs2 := hb2.out.size
            clear ho hb
            have HMm := Lib.hid hm
            have hmb : m ≤ 20060 := by omega
            have hdm : d ≤ m := by omega
            clear hm
            obtain ⟨g, cap2, rfl, hg⟩ := owns_head ho2 (by omega)
            by_cases hjn : j < n + 3
            focus
              have hjI : (j : Int) < (n : Int) + 3 := by omega
              obtain ⟨q, hq⟩ : ∃ q : Nat, (m : Int) - (d : Int) = (q : Int) := ⟨m - d, by omega⟩
              have hqm : q < m := by omega
              have hcell : w2.cell? ⟨g, q, none⟩ = some (.int .u8 ((Sq.copyN acc d j).getD q 0)) := by
                rw [ho2.cellAt q (by omega), ints_get _ _ q (by rw [HCL.out, ← HMm.out]; exact hqm)]
              have hcn : Hid (Sq.copyN acc d (j + 1) = Sq.copyN acc d j ++ [(Sq.copyN acc d j).getD q 0]) := by
                show _ = _
                rw [Sq.copyN, HCL.out, ← HMm.out, show m - d = q by omega]
              obtain ⟨z, hz⟩ : ∃ z, z = (Sq.copyN acc d j).getD q 0 := ⟨_, rfl⟩
              rw [← hz] at hcell hcn
              clear hz
              go_wp2_with (at_builtin; refine wpList_append_own _ rfl _ _ 22 rfl w.heap.size 5 i0 (.int .u8 0) 1 1 Try.underlying22 hi hz0 hz1 hz2 rfl (by decide) _ _ _ rfl (ho2.alloc _) ⟨w2.heap.size, 0, none⟩ 1 1 [.int .u8 z] rfl rfl (row_cells w2 .u8 [z] _) (ints_oneCell .u8 [z]) (by unfold maxLen; omega) (by omega) (by rw [World.size_alloc]; omega) ?_)
              intro v3 w3 ho3 hg3 _
              have HB3 : Hid (Below w.heap.size w w3) := (hb2.out.alloc hs2 _).grown hg3 (by rw [World.size_alloc]; omega) (fun g h => (ho2.lt g h).1)
              have ho4 : w3.ownsRow w.heap.size 5 1 v3 (m + 1) (cellsByteS (Sq.copyN acc d (j + 1))) := by
                rw [hcn.out, cellsByteS, List.map_append]
                exact ho3
              have hm1 : m + 1 = m0 + (j + 1) := by have := HMm.out; omega
              clear ho3 hg3 ho2 hb2
              go_wp2
              go_roundw
              case rel => exact ⟨j + 1, m + 1, by go_num, by omega, hm1, ho4, HB3⟩
              case measure => simp [intOf]; omega
            obtain rfl : j = n + 3 := by omega
            have hjI : ¬ ((n : Int) + 3 < (n : Int) + 3) := by omega
            have hcl := HCL.out (n + 3)
            have hcb := Lib.hid (HCB.out (n + 3))
            have hml : m = (Sq.copyN acc d (n + 3)).length := by rw [hcl]; exact HMm.out
            generalize Sq.copyN acc d (n + 3) = c at HS ho2 hcb hml
            have HML := Lib.hid hml
            clear hcl hml HMm HCL HCB
            by_cases hbig : 20000 < m
            focus
              have HN := HNONE.out (by rw [← HS.out]; exact Sq.lo_big (by rw [← HML.out]; exact hbig))
              have hbI : (20000 : Int) < (m : Int) := by omega
              clear HS HML HNONE HSOME ho2
              go_wp2
              go_ret2
              exact ⟨HN, hb2.out⟩
            have hbI : ¬ (20000 : Int) < (m : Int) := by omega
            go_wp2
            go_roundw
            case rel => exact ⟨k + 3, c, by go_num, by omega, by rw [← HML.out]; exact ho2, by rw [← HML.out]; omega, hcb, HS, hb2⟩
            case measure => simp [intOf]; omega
        have HN := HNONE.out (by rw [← hlo.out]; exact Sq.at_cut hal hkL hx1 (by rw [HBL.out]; exact h1))
        have h1I : (t.size : Int) ≤ (k : Int) + 1 := by omega
        clear hlo hkL HNONE HSOME ho hx1
        go_wp2
        go_ret2
        exact ⟨HN, hb.out⟩
      have HS : Hid (Sq.lo ((byts t).drop (k + 1)) (acc ++ [(byts t).getD k 0]) = R) := by
        show _ = _
        rw [← hlo.out, Sq.at_byte hal hkL hx1]
      obtain ⟨z, hz⟩ : ∃ z, z = (byts t).getD k 0 := ⟨_, rfl⟩
      rw [← hz] at hxs hxr HS hx1
      have hby2 : Hid (Bytes (acc ++ [z])) := bytes_append hby.out (fun x hx => by rw [List.mem_singleton.1 hx]; exact hxr)
      have hx1I : (z == 1) = false := by simp [hx1]
      have hx1J : (z != 1) = true := by simp [hx1]
      clear hz hlo hby hkL HX
      go_wp2_with (at_builtin; refine wpList_append_own _ rfl _ _ 22 rfl w.heap.size 5 i0 (.int .u8 0) 1 1 Try.underlying22 hi hz0 hz1 hz2 rfl (by decide) _ _ _ rfl (ho.alloc _) ⟨w1.heap.size, 0, none⟩ 1 1 [.int .u8 z] rfl rfl (row_cells w1 .u8 [z] _) (ints_oneCell .u8 [z]) (by unfold maxLen; omega) (by omega) (by rw [World.size_alloc]; omega) ?_)
      intro v3 w3 ho3 hg3 _
      have HB3 : Hid (Below w.heap.size w w3) := (hb.out.alloc hs1 _).grown hg3 (by rw [World.size_alloc]; omega) (fun g h => (ho.lt g h).1)
      have ho4 : w3.ownsRow w.heap.size 5 1 v3 (acc ++ [z]).length (cellsByteS (acc ++ [z])) := by simpa using ho3
      obtain ⟨ao3, cap3, rfl⟩ := slice_of ho3
      have hlen : (acc ++ [z]).length = acc.length + 1 := by rw [List.length_append]; rfl
      clear ho3 hg3 ho hb
      by_cases hbig : 20000 < acc.length + 1
      focus
        have HN := HNONE.out (by rw [← HS.out]; exact Sq.lo_big (by rw [hlen]; exact hbig))
        have hbI : (20000 : Int) < (acc.length : Int) + 1 := by omega
        clear HS hlen ho4 HNONE HSOME
        go_wp2
        go_ret2
        exact ⟨HN, HB3.out⟩
      have hbI : ¬ (20000 : Int) < (acc.length : Int) + 1 := by omega
      go_wp2
      go_roundw
      case rel => exact ⟨k + 1, acc ++ [z], by go_num, by omega, by rw [hlen] at ho4 ⊢; exact ho4, by rw [hlen]; omega, hby2, HS, HB3⟩
      case measure => simp [intOf]; omega
    obtain rfl : k = t.size := by omega
    have hE := hlo.out
    rw [List.drop_of_length_le (by rw [HBL.out]; exact Nat.le_refl _), Sq.lo_nil (by omega)] at hE
    have HN := HSOME.out acc hE.symm
    have hcv := str_own ho hby.out
    have HB1 := Lib.hid hb.out
    clear hE ho hlo HSOME HNONE hby
    go_wp2
    go_ret2
    exact ⟨HN, HB1.out⟩
end Go.Proofs.Ytgcpdifggjkdhab
