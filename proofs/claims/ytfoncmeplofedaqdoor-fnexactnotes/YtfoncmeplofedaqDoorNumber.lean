/- CONTRACTS: spec.l1In, spec.l1Number, spec.Number, impl.Number. -/
import Derived.Test.YtfoncmeplofedaqDoorNums
import Derived.Test.YtfoncmeplofedaqDoorBasis
namespace Go.Proofs.YtfoncmeplofedaqDoor
open Go.RowKit

set_option maxRecDepth 100000 in
theorem l1Number_any (m0 : Nat) (w : World) (hm : m0 ≤ 1099511627776) :
    Calls Tryd.prog 29 #[.int .i64 (m0 : Int)] w fun e w' => ∃ v, e = .returned v ∧ w'.ownsRow w.heap.size 5 1 v (enc m0).length (cellsByteS (enc m0)) ∧ Below w.heap.size w w' := by
  obtain ⟨i0, hi, hz0, hz1, hz2⟩ := info_parts Tryd.infoB
  have h9 : Hid ((enc m0).length ≤ 6) := enc_len6 m0 hm
  go_enter Tryd.func29, Tryd.ntmps29
  go_wp2
  go_loopw [0, 3] (fun q v wr => ∃ (m : Nat) (acc : List Int), q = .int .i64 m ∧ m ≤ m0 ∧ Hid (acc ++ enc m = enc m0) ∧ wr.ownsRow w.heap.size 5 1 v acc.length (cellsByteS acc) ∧ Below w.heap.size w wr) (fun q _ _ => (intOf q).toNat)
  case atStart => exact ⟨m0, [], rfl, Nat.le_refl _, rfl, World.ownsRow_lit w #[] 0 (Nat.le_refl _) (Nat.zero_le _) rfl, (Below.refl _ _).alloc (Nat.le_refl _) _⟩
  case round =>
    obtain ⟨m, acc, rfl, hmm, he, ho, hb⟩ := hrel
    have hlen : acc.length + (enc m).length ≤ 6 := by have h := congrArg List.length he.out; rw [List.length_append] at h; have := h9.out; omega
    have hs := hb.size
    by_cases hlt : 128 ≤ m
    · go_wp2_with (at_builtin; refine wpList_append_own _ rfl _ _ 44 rfl w.heap.size 5 i0 (.int .u8 0) 1 1 Tryd.underlying44 hi hz0 hz1 hz2 rfl (by decide) _ _ _ rfl (ho.alloc _) ⟨wr.heap.size, 0, none⟩ 1 1 [.int .u8 ((m : Int) % 128 + 128)] rfl rfl ?c1 ?c2 ?c3 ?c4 ?c5 ?_)
      case c1 => exact one_cell wr .u8 _ _
      case c2 => exact ints_oneCell .u8 [(m : Int) % 128 + 128]
      case c3 => unfold maxLen; omega
      case c4 => omega
      case c5 => simp; omega
      · intro v' w1 ho' hg _
        have hb' : Below w.heap.size w w1 := (hb.alloc (by omega) _).grown hg (by simp; omega) (fun k hk => (ho.lt k hk).1)
        have ho2 : w1.ownsRow w.heap.size 5 1 v' (acc ++ [(m : Int) % 128 + 128]).length (cellsByteS (acc ++ [(m : Int) % 128 + 128])) := by simpa using ho'
        have he2 : Hid ((acc ++ [(m : Int) % 128 + 128]) ++ enc (m / 128) = enc m0) := by
          have h := he.out
          rw [enc_more m hlt] at h
          show _ = _
          rw [← h]; simp
        clear ho' hg ho hb he hlen
        go_wp2
        go_roundw
        case rel => exact ⟨m / 128, _, by go_num, by omega, he2, ho2, hb'⟩
        case measure => simp [intOf]; omega
    · go_wp2_with (at_builtin; refine wpList_append_own _ rfl _ _ 44 rfl w.heap.size 5 i0 (.int .u8 0) 1 1 Tryd.underlying44 hi hz0 hz1 hz2 rfl (by decide) _ _ _ rfl (ho.alloc _) ⟨wr.heap.size, 0, none⟩ 1 1 [.int .u8 (m : Int)] rfl rfl ?d1 ?d2 ?d3 ?d4 ?d5 ?_)
      case d1 => exact one_cell wr .u8 _ _
      case d2 => exact ints_oneCell .u8 [(m : Int)]
      case d3 => unfold maxLen; omega
      case d4 => omega
      case d5 => simp; omega
      · intro v' w1 ho' hg _
        have hb' : Below w.heap.size w w1 := (hb.alloc (by omega) _).grown hg (by simp; omega) (fun k hk => (ho.lt k hk).1)
        have he2 : acc ++ [(m : Int)] = enc m0 := by
          have h := he.out
          rwa [enc_last m (by omega)] at h
        have ho2 : w1.ownsRow w.heap.size 5 1 v' (enc m0).length (cellsByteS (enc m0)) := by rw [← he2]; simpa using ho'
        clear ho' hg ho hb he hlen he2
        go_wp2
        go_ret
        exact ⟨_, rfl, ho2, hb'⟩

/-- what Number tells -/
def numB (n : Int) : List Int := if 0 ≤ n ∧ n ≤ 1099511627776 then enc n.toNat else []
theorem numB_in (n : Nat) (h : n ≤ 1099511627776) : numB n = enc n := by unfold numB; rw [if_pos (by omega)]; simp
theorem numB_out (n : Int) (h : ¬ (0 ≤ n ∧ n ≤ 1099511627776)) : numB n = [] := by unfold numB; rw [if_neg h]
theorem numB_len (n : Int) : (numB n).length ≤ 6 := by
  unfold numB
  split
  · exact enc_len6 _ (by omega)
  · simp

end Go.Proofs.YtfoncmeplofedaqDoor
