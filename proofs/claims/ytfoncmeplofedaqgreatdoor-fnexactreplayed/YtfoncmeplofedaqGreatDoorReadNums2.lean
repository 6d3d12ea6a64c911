/- CONTRACT: impl.ReadNumbers, by impl.readList over the cursor's method value. -/
import Derived.Test.YtfoncmeplofedaqGreatDoorReadNums
namespace Go.Proofs.YtfoncmeplofedaqGreatDoor
open Go.RowKit

/-- what readList leaves -/
def ListEnd (cb : Nat) (s : ByteArray) (w : World) (e : Ending) (w' : World) : Prop :=
  ∃ v, e = .returned (.tuple #[v, .bool (readNums (byts s)).isSome]) ∧ w'.ownsRow w.heap.size 2 1 v ((readNums (byts s)).getD []).length (cellsInt64S ((readNums (byts s)).getD [])) ∧ w.grownBy w' (some cb)
theorem listEnd_none {cb : Nat} {s : ByteArray} {w w' : World} (h : readNums (byts s) = none) (hb : w.grownBy w' (some cb)) : ListEnd cb s w (.returned (.tuple #[.slice none 0 0, .bool false])) w' := by
  refine ⟨.slice none 0 0, ?_, ?_, hb⟩
  · rw [h]; rfl
  · rw [h]; exact World.ownsRow_nil _ _ _ _
theorem listEnd_some {cb : Nat} {s : ByteArray} {w w' : World} {v : Value} {l : List Int} (h : readNums (byts s) = some l) (ho : w'.ownsRow w.heap.size 2 1 v l.length (cellsInt64S l)) (hb : w.grownBy w' (some cb)) : ListEnd cb s w (.returned (.tuple #[v, .bool true])) w' := by
  refine ⟨v, ?_, ?_, hb⟩
  · rw [h]; rfl
  · rw [h]; exact ho

set_option maxHeartbeats 2000000 in
set_option maxRecDepth 100000 in
theorem readListI_any (cb : Nat) (s : ByteArray) (w : World) (hcur : Cur w cb s 0) (hs : s.size ≤ 1048576) :
    Calls Tryz.prog 57 #[.pointer (some ⟨cb, 0, none⟩), .func (.func 58) #[.pointer (some ⟨cb, 0, none⟩)] #[]] w (ListEnd cb s w) := by
  obtain ⟨i0, hi, hz0, hz1, hz2⟩ := info_parts Tryz.info64
  have hcl := cur_lt hcur
  have HN : Hid ((byts s).length = s.size) := byts_len s
  go_enter Tryz.func57, Tryz.ntmps57
  go_wp2_with fail
  refine (number_any cb s 0 w hcur (Nat.zero_le _) (by omega)).mono ?_
  rintro e w1 hn1
  rcases number_cases hn1 with ⟨hr0, rfl, hb1⟩ | ⟨c, k, hr0, rfl, hcur1, hg1⟩
  · clear hn1
    have hg : w.grownBy w1 (some cb) := grown_below (World.grownBy.refl _ _) hb1
    have HL := readL_none (rdI (byts s)) hr0
    go_wp2
    go_ret2
    exact listEnd_none HL hg
  · clear hn1
    rw [Nat.zero_add] at hcur1
    obtain ⟨hk0, hkn, _⟩ := rdP_some hr0
    rw [HN.out] at hkn
    by_cases hc : 200 < (c : Int)
    · have HL := readL_long (rdI (byts s)) hr0 (by omega)
      clear hr0
      go_wp2
      go_ret2
      exact listEnd_none HL hg1
    · have HL : Hid (readNums (byts s) = fin (rdI (byts s)) s.size [] c k) := by
        have h := readL_some (rdI (byts s)) hr0 (by omega)
        rw [HN.out] at h
        exact h
      have hs1 := hg1.size
      clear hr0
      go_wp2_with (at_make; refine wpList_make_own _ rfl _ _ 44 rfl w.heap.size 2 i0 (.int .i64 0) 1 Tryz.underlying44 hi hz0 hz1 _ _ _ c rfl rfl rfl (by rw [hz2]; omega) (by unfold maxLen; omega) ?c0 ?_)
      case c0 => exact hs1
      intro w2 ho2 hg2
      have hg2w : w.grownBy w2 (some cb) := grown_own hg1 hg2 (fun g hg => by cases hg)
      have hcur2 : Cur w2 cb s k := cur_grown hcur1 hg2 (fun g hg => by cases hg)
      clear hg2 hg1 hcur1 hcur
      go_wp2
      go_loopw [8, 25] (fun v i wr => ∃ (t p : Nat) (acc : List Int), t ≤ c ∧ i = .int .i64 t ∧ p ≤ s.size ∧ acc.length = t ∧ wr.ownsRow w.heap.size 2 1 v acc.length (cellsInt64S acc) ∧ w.grownBy wr (some cb) ∧ Hid (Cur wr cb s p) ∧ Hid (readNums (byts s) = fin (rdI (byts s)) s.size acc (c - t) p)) (fun _ i _ => c - (intOf i).toNat)
      case atStart => exact ⟨0, k, [], Nat.zero_le _, rfl, by omega, rfl, ho2, hg2w, hcur2, HL⟩
      case round =>
        obtain ⟨t, p, acc, ht, rfl, hp, hacc, ho, hg, hcu, hr⟩ := hrel
        have HACC : Hid (acc.length = t) := hacc
        have hsr := hg.size
        clear ho2 hg2w hcur2 HL hacc
        by_cases htc : t < c
        · obtain ⟨d, hd⟩ : ∃ d, c - t = d + 1 := ⟨c - t - 1, by omega⟩
          have HD : Hid (c - t = d + 1) := hd
          clear hd
          go_wp2_with fail
          refine (number_any cb s p wr hcu.out hp (by omega)).mono ?_
          rintro e w3 hn3
          rcases number_cases hn3 with ⟨hx, rfl, hb3⟩ | ⟨m, j, hx, rfl, hcur3, hg3⟩
          · have hgw : w.grownBy w3 (some cb) := grown_below hg hb3
            have HL2 : readNums (byts s) = none := by rw [hr.out, HD.out, fin_none _ _ _ _ _ (rdI_none hx)]
            clear hn3 hb3 hr hx ho
            go_wp2
            go_ret2
            exact listEnd_none HL2 hgw
          · obtain ⟨hj0, hjn, hm⟩ := rdP_some hx
            rw [HN.out] at hjn
            have hgw : w.grownBy w3 (some cb) := grown_trans hg hg3
            have ho3 := owns_grown ho hg3 (fun g hg hb => by have h := (ho.lt g hb).1; cases hg; omega)
            have HL2 : Hid (readNums (byts s) = fin (rdI (byts s)) s.size (acc ++ [(m : Int)]) (c - (t + 1)) (p + j)) := by
              have e : c - (t + 1) = d := by have := HD.out; omega
              rw [hr.out, HD.out, fin_some _ _ _ _ _ (rdI_some hx), e]
              rfl
            have hs3 := hg3.size
            clear hn3 hr hx ho hg3 hg
            go_wp2_with (at_builtin; refine wpList_append_own _ rfl _ _ 44 rfl w.heap.size 2 i0 (.int .i64 0) 1 8 Tryz.underlying44 hi hz0 hz1 hz2 rfl (by decide) _ _ _ rfl (ho3.alloc _) ⟨w3.heap.size, 0, none⟩ 1 1 [.int .i64 (m : Int)] rfl rfl ?c1 ?c2 ?c3 ?c4 ?c5 ?_)
            case c1 => exact one_cell w3 .i64 _ _
            case c2 => exact ints_oneCell .i64 [(m : Int)]
            case c3 => have h := HACC.out; unfold maxLen; omega
            case c4 => have h := HACC.out; omega
            case c5 => simp; omega
            intro v4 w4 ho4 hg4 _
            have hg5 := grown_trans (World.grownBy_alloc w3 _ _) hg4
            have hgw4 : w.grownBy w4 (some cb) := grown_own hgw hg5 (fun g h => (ho3.lt g h).1)
            have hcur4 : Hid (Cur w4 cb s (p + j)) := cur_grown hcur3 hg5 (fun g h => by have := (ho3.lt g h).1; omega)
            have ho5 : w4.ownsRow w.heap.size 2 1 v4 (acc ++ [(m : Int)]).length (cellsInt64S (acc ++ [(m : Int)])) := by simpa using ho4
            have hl5 : (acc ++ [(m : Int)]).length = t + 1 := by rw [List.length_append, List.length_singleton, HACC.out]
            have HL5 : Hid ((acc ++ [(m : Int)]).length = t + 1) := hl5
            clear ho4 hg4 hg5 ho3 hgw hcur3 hl5
            go_wp2
            go_roundw
            case rel => exact ⟨t + 1, p + j, acc ++ [(m : Int)], by omega, by go_num, by omega, HL5.out, ho5, hgw4, hcur4, HL2⟩
            case measure => simp [intOf]; omega
        · have hz : c - t = 0 := by omega
          have HL2 : Hid (readNums (byts s) = if p = s.size then some acc else none) := by
            have h := hr.out
            rw [hz, fin_zero] at h
            exact h
          have h0 := cur_cell0 hcu.out
          have h1 := cur_cell1 hcu.out
          clear hz hr
          by_cases hps : (p : Int) < (s.size : Int)
          · have HL3 : readNums (byts s) = none := by rw [HL2.out, if_neg (by omega)]
            clear ho
            go_wp2
            go_quiet (fail)
            go_wp2
            go_ret2
            exact listEnd_none HL3 (grown_below hg (below_drewN (Below.refl _ _) _))
          · have HL3 : readNums (byts s) = some acc := by rw [HL2.out, if_pos (by omega)]
            go_wp2
            go_quiet (fail)
            go_wp2
            go_ret2
            exact listEnd_some HL3 (owns_below ho (below_drewN (Below.refl _ _) _)) (grown_below hg (below_drewN (Below.refl _ _) _))

set_option maxRecDepth 100000 in
theorem implReadNumbers_any (s : ByteArray) (w : World) (hs : s.size ≤ 1048576) :
    Calls Tryz.prog 48 #[.string s] w (NumsEnd s w) := by
  have hcur : Cur (w.alloc (.cells #[.string s, .int .i64 0] 114)) w.heap.size s 0 := heap_alloc_new w _
  go_enter Tryz.func48, Tryz.ntmps48
  go_wp2_with fail
  refine (readListI_any w.heap.size s _ hcur hs).mono ?_
  rintro e w1 ⟨v, rfl, ho, hg⟩
  have hb : Below w.heap.size w w1 := ((Below.refl _ _).alloc (Nat.le_refl _) _).grown hg (by simp) (fun k hk => by cases hk; exact Nat.le_refl _)
  have ho2 := owns_base ho (b' := w.heap.size) (by simp)
  clear ho hg
  go_wp2
  go_ret2
  exact ⟨v, rfl, ho2, hb⟩
end Go.Proofs.YtfoncmeplofedaqGreatDoor
