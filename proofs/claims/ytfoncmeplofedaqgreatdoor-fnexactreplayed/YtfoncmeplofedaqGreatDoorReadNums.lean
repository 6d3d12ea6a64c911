/- CONTRACT: spec.ReadNumbers. -/
import Derived.Test.YtfoncmeplofedaqGreatDoorBuna
namespace Go.Proofs.YtfoncmeplofedaqGreatDoor
open Go.RowKit

/-- what is told: the list and whether there is one -/
def NumsEnd (s : ByteArray) (w : World) (e : Ending) (w' : World) : Prop :=
  ∃ v, e = .returned (.tuple #[v, .bool (readNums (byts s)).isSome]) ∧ w'.ownsRow w.heap.size 2 1 v ((readNums (byts s)).getD []).length (cellsInt64S ((readNums (byts s)).getD [])) ∧ Below w.heap.size w w'

theorem numsEnd_none {s : ByteArray} {w w' : World} {v : Value} (h : readNums (byts s) = none) (ho : w'.ownsRow w.heap.size 2 1 v 0 []) (hb : Below w.heap.size w w') : NumsEnd s w (.returned (.tuple #[v, .bool false])) w' := by
  refine ⟨v, ?_, ?_, hb⟩
  · rw [h]; rfl
  · rw [h]; exact ho
theorem numsEnd_some {s : ByteArray} {w w' : World} {v : Value} {l : List Int} (h : readNums (byts s) = some l) (ho : w'.ownsRow w.heap.size 2 1 v l.length (cellsInt64S l)) (hb : Below w.heap.size w w') : NumsEnd s w (.returned (.tuple #[v, .bool true])) w' := by
  refine ⟨v, ?_, ?_, hb⟩
  · rw [h]; rfl
  · rw [h]; exact ho

set_option maxHeartbeats 2000000 in
set_option maxRecDepth 100000 in
theorem specReadNumbers_any (s : ByteArray) (w : World) (hs : s.size ≤ 1048576) :
    Calls Tryz.prog 16 #[.string s] w (NumsEnd s w) := by
  obtain ⟨i0, hi, hz0, hz1, hz2⟩ := info_parts Tryz.info64
  have hcv := fun (w : World) (s : ByteArray) => run_bytes_of_string (P := Tryz.prog) w 9 73 5 s Tryz.underlying9 Tryz.underlying73 Tryz.underlying5
  obtain ⟨cap, hcap⟩ : ∃ cap, cap = grownCap w s.size 0 5 := ⟨_, rfl⟩
  have hge : s.size ≤ cap := by rw [hcap]; exact grownCap_ge w s.size 0 5
  have hcv1 := hcv w s
  rw [← hcap] at hcv1
  clear hcv hcap
  obtain ⟨n, hn⟩ : ∃ n, n = s.size := ⟨_, rfl⟩
  have hrd := rd_conv (w := w) hge ((bytesRow s cap).size, (bytesRow s cap).size + 1)
  rw [← hn] at hge hcv1 hs hrd
  have HN : Hid ((byts s).length = n) := by rw [hn]; exact byts_len s
  have HZ : Hid (Bytes (byts s)) := byts_bytes s
  have hbW : Below w.heap.size w (w.drew.alloc (.cells (bytesRow s cap) 5 ((bytesRow s cap).size, (bytesRow s cap).size + 1))) := (Below.refl _ _).drew.alloc (Nat.le_refl _) _
  clear hn
  go_enter Tryz.func16, Tryz.ntmps16
  go_wp2_with fail
  refine (specRead_any _ (byts s) _ hrd HZ.out (by rw [HN.out]; omega)).mono ?_
  rintro e w1 ⟨rfl, hb1⟩
  have hb1w : Below w.heap.size w w1 := hbW.trans (hb1.mono hbW.size)
  have hrd1 := rd_below hrd hb1
  have hs1 := hb1w.size
  have hsW : w.heap.size + 1 ≤ w1.heap.size := by have := hb1.size; simpa using this
  clear hrd hbW hb1 hcv1
  cases hr : rd (byts s) with
  | none =>
    rw [rdV_none hr]
    go_wp2
    go_ret2
    exact numsEnd_none (readL_none _ (by exact hr)) (own_new hb1w _) (hb1w.alloc hs1 _)
  | some x =>
    obtain ⟨c, k⟩ := x
    rw [rdV_some hr]
    have hr0 : rdP (byts s) 0 = some (c, k) := hr
    obtain ⟨hk0, hkn, _⟩ := rdP_some hr0
    rw [HN.out] at hkn
    have hk0' : ((k : Int) == 0) = false := beq_eq_false_iff_ne.2 (by omega)
    by_cases hc : 200 < (c : Int)
    · have HL := readL_long (rdI (byts s)) hr0 (by omega)
      clear hr hr0
      go_wp2
      go_ret2
      exact numsEnd_none HL (own_new hb1w _) (hb1w.alloc hs1 _)
    · have HL : Hid (readNums (byts s) = fin (rdI (byts s)) n [] c k) := by
        have h := readL_some (rdI (byts s)) hr0 (by omega)
        rw [HN.out] at h
        exact h
      clear hr hr0
      go_wp2
      go_loopw [5, 6, 7] (fun q u v wr => ∃ (c' p : Nat) (acc : List Int), q = .int .i64 c' ∧ u = .int .i64 p ∧ p ≤ n ∧ acc.length + c' ≤ 200 ∧ wr.ownsRow w1.heap.size 2 1 v acc.length (cellsInt64S acc) ∧ Below w1.heap.size w1 wr ∧ Hid (readNums (byts s) = fin (rdI (byts s)) n acc c' p)) (fun q _ _ _ => (intOf q).toNat)
      case atStart => exact ⟨c, k, [], rfl, rfl, by omega, by show 0 + c ≤ 200; omega, own_new (Below.refl _ _) _, (Below.refl _ _).alloc (Nat.le_refl _) _, HL⟩
      case round =>
        obtain ⟨c', p, acc, rfl, rfl, hp, hac, ho, hb, hr⟩ := hrel
        have hsr := hb.size
        have hbw : Below w.heap.size w wr := hb1w.trans (hb.mono hs1)
        have how := owns_base ho hs1
        clear HL hk0'
        by_cases hc0 : 0 < (c' : Int)
        · obtain ⟨d, rfl⟩ : ∃ d, c' = d + 1 := ⟨c' - 1, by omega⟩
          obtain ⟨ao, cap', hcap', hao, hsl⟩ := slice_from w.heap.size 0 n cap p hp hge
          have hrdp : Rd wr (.slice ao (n - p) cap') (cellsByteS ((byts s).drop p)) := rd_cut (rd_below hrd1 hb) HN.out hcap' hao hp
          have hsub : ((n : Int) - (p : Int)) = ((n - p : Nat) : Int) := by omega
          go_wp2_with fail
          refine (specRead_any _ ((byts s).drop p) _ hrdp (bytes_drop HZ.out p) (by rw [List.length_drop, HN.out]; omega)).mono ?_
          rintro e w2 ⟨rfl, hb2⟩
          have ho2 := owns_below ho hb2
          have hb2w := hb.trans (hb2.mono hsr)
          have hs2 := hb2w.size
          clear hsl hrdp hsub hao hcap'
          cases hx : rd ((byts s).drop p) with
          | none =>
            rw [rdV_none hx]
            have HL2 : readNums (byts s) = none := by rw [hr.out, fin_none _ _ _ _ _ (rdI_none hx)]
            have hb3 := hb1w.trans (hb2w.mono hs1)
            have ho3 := own_new hb3 2
            clear ho ho2 how hr
            go_wp2
            go_ret2
            exact numsEnd_none HL2 ho3 (hb3.alloc hb3.size _)
          | some y =>
            obtain ⟨m, j⟩ := y
            rw [rdV_some hx]
            have hxp : rdP (byts s) p = some (m, j) := hx
            obtain ⟨hj0, hjn, hm⟩ := rdP_some hxp
            rw [HN.out] at hjn
            have hj0' : ((j : Int) == 0) = false := beq_eq_false_iff_ne.2 (by omega)
            have HL2 : Hid (readNums (byts s) = fin (rdI (byts s)) n (acc ++ [(m : Int)]) d (p + j)) := by
              rw [hr.out, fin_some _ _ _ _ _ (rdI_some hxp)]
              rfl
            clear hx hxp hr how ho hb2 hb
            go_wp2_with (at_builtin; refine wpList_append_own _ rfl _ _ 44 rfl w1.heap.size 2 i0 (.int .i64 0) 1 8 Tryz.underlying44 hi hz0 hz1 hz2 rfl (by decide) _ _ _ rfl (ho2.alloc _) ⟨w2.heap.size, 0, none⟩ 1 1 [.int .i64 (m : Int)] rfl rfl ?c1 ?c2 ?c3 ?c4 ?c5 ?_)
            case c1 => exact one_cell w2 .i64 _ _
            case c2 => exact ints_oneCell .i64 [(m : Int)]
            case c3 => unfold maxLen; omega
            case c4 => omega
            case c5 => simp; omega
            intro v3 w3 ho3 hg3 _
            have hb3 : Below w1.heap.size w1 w3 := (hb2w.alloc hs2 _).grown hg3 (by simp; omega) (fun k hk => (ho2.lt k hk).1)
            have ho4 : w3.ownsRow w1.heap.size 2 1 v3 (acc ++ [(m : Int)]).length (cellsInt64S (acc ++ [(m : Int)])) := by simpa using ho3
            clear ho3 hg3 ho2 hb2w
            go_wp2
            go_roundw
            case rel => exact ⟨d, p + j, acc ++ [(m : Int)], by go_num, by go_num, by omega, by rw [List.length_append, List.length_singleton]; omega, ho4, hb3, HL2⟩
            case measure => simp [intOf]
        · have hz : c' = 0 := by omega
          have HL2 : Hid (readNums (byts s) = if p = n then some acc else none) := by
            have h := hr.out
            rw [hz, fin_zero] at h
            exact h
          clear hr hz
          by_cases hpn : p = n
          · have hne : ((p : Int) != (n : Int)) = false := by simp [hpn]
            have HL3 : readNums (byts s) = some acc := by rw [HL2.out, if_pos hpn]
            clear hpn ho
            go_wp2
            go_ret2
            exact numsEnd_some HL3 how hbw
          · have hne : ((p : Int) != (n : Int)) = true := by rw [bne_iff_ne]; omega
            have HL3 : readNums (byts s) = none := by rw [HL2.out, if_neg hpn]
            have ho3 := own_new hbw 2
            clear hpn ho how
            go_wp2
            go_ret2
            exact numsEnd_none HL3 ho3 (hbw.alloc hbw.size _)
end Go.Proofs.YtfoncmeplofedaqGreatDoor
