/- CONTRACTS: the program's Squeezed and Gain. -/
import Derived.Test.YtgcpdifggjkdhabSqL
import Derived.Test.YtgcpdifggjkdhabLoI
namespace Go.Proofs.Ytgcpdifggjkdhab
open Go.RowKit Go.MapKept
set_option linter.unusedVariables false

theorem opn_row {B b a : Nat} {L : List Int} {w w' : World} {v : Value} {n : Nat} {xs : List Value} (h : Opn B b L a w) (ho : w.ownsRow B 5 1 v n xs) (hg : w.grownBy w' v.ownBlock) : Opn B b L a w' :=
  opn_grown h hg (fun g hg' => by
    obtain ⟨cur, hc⟩ := block_of ho hg'
    exact ⟨cur, _, hc⟩)
set_option maxHeartbeats 4000000 in
set_option maxRecDepth 100000 in
theorem implSqueezed_any (s : ByteArray) (w : World) (hs0 : s.size ≤ 9223372036854775807) :
    Calls Try.prog 38 #[.string s] w fun e w' => e = .returned (.string (sqT s)) ∧ Below w.heap.size w w' := by
  by_cases h : 20000 < s.size
  focus
    have e : sqT s = ⟨#[]⟩ := by unfold sqT; rw [if_pos h]
    rw [e]
    have hI : (20000 : Int) < (s.size : Int) := by omega
    clear e
    go_enter Try.func38, Try.ntmps38
    go_wp2
    go_ret
    exact ⟨rfl, Below.refl _ _⟩
  have hs : s.size ≤ 20000 := by omega
  have hE : Hid (sqT s = asB (Sq.sq (byts s) 0)) := by
    show _ = _
    unfold sqT
    rw [if_neg h]
  have hI : ¬ (20000 : Int) < (s.size : Int) := by omega
  obtain ⟨i0, hi, hz0, hz1, hz2⟩ := info_parts Try.infoB
  have HBL : Hid ((byts s).length = s.size) := byts_len s
  have HBY : Hid (∀ z ∈ Sq.sq (byts s) 0, 0 ≤ z ∧ z ≤ 255) := Sq.sq_bytes (byts_ok s) 0
  have hshort := sq_short s hs
  have HSH := Lib.hid hshort
  have hb0 : Hid (Below w.heap.size w (w.alloc (.map #[] 0))) := (Below.refl _ _).alloc (Nat.le_refl _) _
  have ho0 : Hid (Opn (w.heap.size + 1) w.heap.size (byts s) 0 (w.alloc (.map #[] 0))) := opn_new w (byts s)
  have hsa := World.size_alloc w (.map #[] 0)
  have hmm := @run_makeMap Try.prog
  clear h hshort
  go_enter Try.func38, Try.ntmps38
  go_wp2
  go_loopw [3, 5] (fun p i wr => ∃ (k : Nat) (acc : List Int), i = .int .i64 k ∧ k ≤ s.size ∧ wr.ownsRow (w.heap.size + 1) 5 1 p acc.length (cellsByteS acc) ∧ acc.length ≤ 2 * k ∧ Hid (acc ++ Sq.sq (byts s) k = Sq.sq (byts s) 0) ∧ Hid (Opn (w.heap.size + 1) w.heap.size (byts s) k wr) ∧ Hid (Below w.heap.size w wr) ∧ w.heap.size + 1 ≤ wr.heap.size) (fun _ i _ => s.size - (intOf i).toNat)
  case atStart => exact ⟨0, [], rfl, Nat.zero_le _, World.ownsRow_nil _ _ _ _, by simp, rfl, ho0, hb0, by omega⟩
  case round =>
    rename World => w1
    obtain ⟨k, acc, rfl, hk, ho, hal, hsq, hop, hb, hs1⟩ := hrel
    clear hb0 ho0 hsa
    by_cases hlt : k < s.size
    focus
      have hB := Sq.best_in (byts s) k
      have hBl := Sq.best_len (L := byts s) (a := k) (by rw [HBL.out]; omega)
      rw [HBL.out] at hBl
      have HM : Hid (0 < (Sq.best (byts s) k).1 → Sq.sq (byts s) k = [1, ((Sq.best (byts s) k).1 : Int) - 3, ((Sq.best (byts s) k).2 : Int)] ++ Sq.sq (byts s) (k + (Sq.best (byts s) k).1)) := fun h => Sq.sq_more (by rw [HBL.out]; exact hlt) h
      have HO1 : Hid (¬ 0 < (Sq.best (byts s) k).1 → (byts s).getD k 0 = 1 → Sq.sq (byts s) k = [1, 0] ++ Sq.sq (byts s) (k + 1)) := fun h h1 => Sq.sq_one (by rw [HBL.out]; exact hlt) h h1
      have HP1 : Hid (¬ 0 < (Sq.best (byts s) k).1 → ¬ (byts s).getD k 0 = 1 → Sq.sq (byts s) k = [(byts s).getD k 0] ++ Sq.sq (byts s) (k + 1)) := fun h h1 => Sq.sq_byte (by rw [HBL.out]; exact hlt) h h1
      have hfind := Lib.hid (longest_any (w.heap.size + 1) w.heap.size s k w1 hop.out hlt hs hs1)
      obtain ⟨x, hx⟩ : ∃ x, x = (Sq.best (byts s) k).1 := ⟨_, rfl⟩
      obtain ⟨y, hy⟩ : ∃ y, y = (Sq.best (byts s) k).2 := ⟨_, rfl⟩
      rw [← hx, ← hy] at hB hfind HM
      rw [← hx] at hBl HO1 HP1
      clear hx hy
      have hxs := str_at s k hlt
      have hxr := byts_range s k
      obtain ⟨z, hz⟩ : ∃ z, z = (byts s).getD k 0 := ⟨_, rfl⟩
      rw [← hz] at hxs hxr HO1 HP1
      clear hz
      have hlI : (k : Int) < (s.size : Int) := by omega
      go_wp2_with fail
      refine hfind.out.mono ?_
      rintro e w2 ⟨rfl, hb12⟩
      have hs2 := hb12.size
      have ho2 := owns_below ho hb12
      have HOP2 := Lib.hid (opn_below hop.out hb12)
      have HB2 := Lib.hid (hb.out.trans (hb12.mono (by omega)))
      clear ho hb12 hfind hb hop
      obtain ⟨mx, hmx⟩ : ∃ mx, mx = max x 1 := ⟨_, rfl⟩
      have hmx1 : (if (x : Int) < 1 then (1 : Int) else (x : Int)) = (mx : Int) := by split <;> omega
      have hmx2 : (if (1 : Int) < (x : Int) then (x : Int) else 1) = (mx : Int) := by split <;> omega
      have hm1 : 1 ≤ mx := by omega
      have hkm : k + mx ≤ s.size := by omega
      have HMX := Lib.hid hmx
      clear hmx
      by_cases h0 : 0 < x
      focus
        have HS := HM.out h0
        have hx4 : 4 ≤ x ∧ x ≤ 60 ∧ 1 ≤ y ∧ y ≤ 200 := by omega
        have HS2 : Hid ((acc ++ [1, (x : Int) - 3, (y : Int)]) ++ Sq.sq (byts s) (k + mx) = Sq.sq (byts s) 0) := by
          show _ = _
          rw [HMX.out, show max x 1 = x by omega, ← hsq.out, HS, List.append_assoc]
        have h0I : (0 : Int) < (x : Int) := by omega
        have hw1 : IntKind.u8.wrap ((x : Int) - 3) = (x : Int) - 3 := by simp [IntKind.wrap, IntKind.signed, IntKind.bits]; omega
        have hw2 : IntKind.u8.wrap (y : Int) = (y : Int) := by simp [IntKind.wrap, IntKind.signed, IntKind.bits]; omega
        have hw3 : ((x : Int) - 3) % 256 = (x : Int) - 3 := by omega
        have hw4 : (y : Int) % 256 = (y : Int) := by omega
        clear HS HM HO1 HP1 hB hsq
        go_wp2_with (at_builtin; refine wpList_append_own _ rfl _ _ 22 rfl (w.heap.size + 1) 5 i0 (.int .u8 0) 1 1 Try.underlying22 hi hz0 hz1 hz2 rfl (by decide) _ _ _ rfl (ho2.alloc _) ⟨w2.heap.size, 0, none⟩ 3 3 [.int .u8 1, .int .u8 ((x : Int) - 3), .int .u8 (y : Int)] rfl rfl (row_cells w2 .u8 [1, (x : Int) - 3, (y : Int)] _) (ints_oneCell .u8 [1, (x : Int) - 3, (y : Int)]) (by unfold maxLen; omega) (by omega) (by rw [World.size_alloc]; omega) ?_)
        intro v3 w3 ho3 hg3 _
        have hs3 := hg3.size
        rw [World.size_alloc] at hs3
        have HB3 : Hid (Below w.heap.size w w3) := (HB2.out.alloc HB2.out.size _).grown hg3 (by rw [World.size_alloc]; have := HB2.out.size; omega) (fun g h => by have := (ho2.lt g h).1; omega)
        have HOP3 := Lib.hid (opn_row (opn_below HOP2.out ((Below.refl _ _).alloc (Nat.le_refl _) _)) (ho2.alloc _) hg3)
        have ho4 : w3.ownsRow (w.heap.size + 1) 5 1 v3 (acc ++ [1, (x : Int) - 3, (y : Int)]).length (cellsByteS (acc ++ [1, (x : Int) - 3, (y : Int)])) := by simpa using ho3
        have hlen4 : (acc ++ [1, (x : Int) - 3, (y : Int)]).length ≤ 2 * (k + mx) := by rw [List.length_append]; simp; omega
        generalize acc ++ [1, (x : Int) - 3, (y : Int)] = acc2 at HS2 ho4 hlen4
        clear ho3 hg3 ho2 HB2 HOP2
        go_wp2
      rotate_left
      have h0I : ¬ (0 : Int) < (x : Int) := by omega
      by_cases h1 : z = 1
      focus
        have HS := HO1.out h0 h1
        have HS2 : Hid ((acc ++ [1, 0]) ++ Sq.sq (byts s) (k + mx) = Sq.sq (byts s) 0) := by
          show _ = _
          rw [HMX.out, show max x 1 = 1 by omega, ← hsq.out, HS, List.append_assoc]
        subst h1
        have hsc : Lib.strCells ⟨#[1, 0]⟩ = cellsByteS [1, 0] := rfl
        have hsz2 : (⟨#[1, 0]⟩ : ByteArray).size = 2 := rfl
        clear HS HM HO1 HP1 hB hsq
        go_wp2_with (at_builtin; refine Lib.wpList_append_own_string _ rfl _ _ 22 9 rfl (w.heap.size + 1) 5 i0 Try.underlying22 Try.underlying9 hi hz0 hz1 hz2 _ _ _ rfl ho2 ⟨#[1, 0]⟩ rfl (by rw [hsz2]; unfold maxLen; omega) (by rw [hsz2]; omega) (by omega) ?_)
        intro v3 w3 ho3 hg3 _
        have hs3 := hg3.size
        have HB3 : Hid (Below w.heap.size w w3) := HB2.out.grown hg3 HB2.out.size (fun g h => by have := (ho2.lt g h).1; omega)
        have HOP3 := Lib.hid (opn_row HOP2.out ho2 hg3)
        have ho4 : w3.ownsRow (w.heap.size + 1) 5 1 v3 (acc ++ [1, 0]).length (cellsByteS (acc ++ [1, 0])) := by
          first | simpa using ho3 | (rw [hsc, hsz2] at ho3; simpa using ho3)
        have hlen4 : (acc ++ [1, 0]).length ≤ 2 * (k + mx) := by rw [List.length_append]; simp; omega
        generalize acc ++ [1, 0] = acc2 at HS2 ho4 hlen4
        clear ho3 hg3 ho2 HB2 HOP2
        go_wp2
      rotate_left
      focus
        have HS := HP1.out h0 h1
        have HS2 : Hid ((acc ++ [z]) ++ Sq.sq (byts s) (k + mx) = Sq.sq (byts s) 0) := by
          show _ = _
          rw [HMX.out, show max x 1 = 1 by omega, ← hsq.out, HS, List.append_assoc]
        have h1D : (z == 1) = false := by simp [h1]
        clear HS HM HO1 HP1 hB hsq
        go_wp2_with (at_builtin; refine wpList_append_own _ rfl _ _ 22 rfl (w.heap.size + 1) 5 i0 (.int .u8 0) 1 1 Try.underlying22 hi hz0 hz1 hz2 rfl (by decide) _ _ _ rfl (ho2.alloc _) ⟨w2.heap.size, 0, none⟩ 1 1 [.int .u8 z] rfl rfl (row_cells w2 .u8 [z] _) (ints_oneCell .u8 [z]) (by unfold maxLen; omega) (by omega) (by rw [World.size_alloc]; omega) ?_)
        intro v3 w3 ho3 hg3 _
        have hs3 := hg3.size
        rw [World.size_alloc] at hs3
        have HB3 : Hid (Below w.heap.size w w3) := (HB2.out.alloc HB2.out.size _).grown hg3 (by rw [World.size_alloc]; have := HB2.out.size; omega) (fun g h => by have := (ho2.lt g h).1; omega)
        have HOP3 := Lib.hid (opn_row (opn_below HOP2.out ((Below.refl _ _).alloc (Nat.le_refl _) _)) (ho2.alloc _) hg3)
        have ho4 : w3.ownsRow (w.heap.size + 1) 5 1 v3 (acc ++ [z]).length (cellsByteS (acc ++ [z])) := by simpa using ho3
        have hlen4 : (acc ++ [z]).length ≤ 2 * (k + mx) := by rw [List.length_append]; simp; omega
        generalize acc ++ [z] = acc2 at HS2 ho4 hlen4
        clear ho3 hg3 ho2 HB2 HOP2
        go_wp2
      all_goals
        have hs3w : w.heap.size + 1 ≤ w3.heap.size := by omega
        go_loopw [5, 49] (fun i c wr => ∃ j m : Nat, c = .int .i64 j ∧ i = .int .i64 m ∧ m = k + j ∧ j ≤ mx ∧ wr.ownsRow (w.heap.size + 1) 5 1 v3 acc2.length (cellsByteS acc2) ∧ Hid (Opn (w.heap.size + 1) w.heap.size (byts s) m wr) ∧ Hid (Below w.heap.size w wr) ∧ w.heap.size + 1 ≤ wr.heap.size) (fun _ c _ => mx - (intOf c).toNat)
        case atStart => exact ⟨0, k, rfl, rfl, rfl, Nat.zero_le _, ho4, HOP3, HB3, hs3w⟩
        case round =>
          rename World => w4
          obtain ⟨j, m, rfl, rfl, hm, hj, ho5, hop5, hb5, hs4⟩ := hrel
          clear ho4 HOP3 HB3 hs3w
          have HMm := Lib.hid hm
          have hmsz : m ≤ s.size := by omega
          by_cases hjm : j < mx
          focus
            have hcall := Lib.hid (note_any (w.heap.size + 1) w.heap.size s m w4 hop5.out (by omega) hs hs4)
            have hjI : (j : Int) < (mx : Int) := by omega
            clear hm
            go_wp2_with fail
            refine hcall.out.mono ?_
            rintro e w5 ⟨rfl, hop6, hb6, hf6⟩
            have ho6 := fro_owns ho5 hf6 (Nat.lt_succ_self _)
            have HB6 := Lib.hid (hb5.out.trans hb6)
            have HOP6 := Lib.hid hop6
            have hs6 := hb6.size
            clear hcall hop5 hb5 ho5 hop6 hb6 hf6
            go_wp2
            go_roundw
            case rel => exact ⟨j + 1, m + 1, by go_num, by go_num, by have := HMm.out; omega, by omega, ho6, HOP6, HB6, by omega⟩
            case measure => simp [intOf]; omega
          obtain rfl : j = mx := by omega
          have hop7 : Hid (Opn (w.heap.size + 1) w.heap.size (byts s) (k + j) w4) := by
            rw [← HMm.out]
            exact hop5
          have hjI : ¬ (j : Int) < (j : Int) := by omega
          clear hm
          go_wp2
          go_roundw
          case rel => exact ⟨k + j, acc2, by rw [HMm.out], by omega, ho5, hlen4, HS2, hop7, hb5, hs4⟩
          case measure => have := HMm.out; simp [intOf]; omega
    obtain rfl : k = s.size := by omega
    have hE2 := hsq.out
    rw [Sq.sq_end (by rw [HBL.out]; exact Nat.le_refl _), List.append_nil] at hE2
    have hown := Lib.hid (ownRow_any (w.heap.size + 1) _ acc w1 (by rw [hE2]; exact HBY.out) ho (by have := HSH.out; rw [← hE2] at this; omega))
    rw [hE2] at hown
    have hsw := hb.out.size
    clear hE2 hsq ho hal hop
    go_wp2_with fail
    refine hown.out.mono ?_
    rintro e w2 ⟨rfl, hb2⟩
    have HB := Lib.hid (hb.out.trans (hb2.mono hsw))
    clear hown hb2 hb
    go_wp2
    go_ret
    exact ⟨ret_str (by rw [hE.out]), HB.out⟩
theorem implGain_any (s : ByteArray) (w : World) (hs : s.size ≤ 9223372036854775807) :
    Calls Try.prog 43 #[.string s] w fun e w' => e = .returned (.int .i64 (gainT s)) ∧ Below w.heap.size w w' := by
  have H := Lib.hid (implSqueezed_any s w hs)
  have hz := sqT_size s
  have HG : Hid (gainT s = (s.size : Int) - ((sqT s).size : Int)) := rfl
  generalize sqT s = t at H hz HG
  go_enter Try.func43, Try.ntmps43
  go_wp2_with fail
  refine H.out.mono ?_
  rintro e w1 ⟨rfl, hb⟩
  go_wp2
  go_ret
  exact ⟨ret_int (by rw [HG.out]), hb⟩
end Go.Proofs.Ytgcpdifggjkdhab
