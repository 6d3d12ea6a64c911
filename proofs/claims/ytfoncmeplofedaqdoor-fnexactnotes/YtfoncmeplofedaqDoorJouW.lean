/- CONTRACT: the specification's Notes. -/
import Derived.Test.YtfoncmeplofedaqDoorJouU
import Derived.Test.YtfoncmeplofedaqDoorNtm
import Derived.Test.YtfoncmeplofedaqDoorNotT
namespace Go.Proofs.YtfoncmeplofedaqDoor
open Go.RowKit
set_option linter.unusedVariables false
set_option maxHeartbeats 4000000 in
set_option maxRecDepth 100000 in
theorem specNotes_any (d : ByteArray) (w : World) (hd : d.size ≤ 1048576) :
    Calls Tryd.prog 4 #[.string d] w fun e w' => ∃ v, e = .returned (.tuple #[v, .int .i64 ((notesT d).2 : Int)]) ∧ OwnNt w' w.heap.size v (notesT d).1 ∧ Below w.heap.size w w' := by
  have HD := Lib.hid hd
  have HT0 := Lib.hid (notesTo_start d)
  have hlit : OwnNt (w.alloc (.cells #[] 29)) w.heap.size (.slice (some ⟨w.heap.size, 0, none⟩) 0 0) [] := World.ownsRow_lit (base := w.heap.size) (e := 29) (size := 3) w #[] 0 (Nat.le_refl _) (Nat.zero_le _) rfl
  have hbl : Below w.heap.size w (w.alloc (.cells #[] 29)) := (Below.refl _ _).alloc (Nat.le_refl _) _
  have HLIT := Lib.hid hlit
  have HBL := Lib.hid hbl
  clear hd hlit hbl
  go_enter Tryd.func4, Tryd.ntmps4
  go_wp2
  go_loopw [4, 5] (fun q i wr => ∃ (L : List Nt) (k : Nat), i = .int .i64 (k : Int) ∧ k ≤ d.size ∧ OwnNt wr w.heap.size q L ∧ Hid (NotesTo d L k) ∧ Hid (Below w.heap.size w wr)) (fun _ i _ => d.size + 1 - (intOf i).toNat)
  case atStart => exact ⟨[], 0, rfl, Nat.zero_le _, HLIT.out, HT0, HBL⟩
  case round =>
    rename World => w1
    obtain ⟨L, k, rfl, hk, ho, hnt, hb⟩ := hrel
    obtain ⟨ao, cap, rfl⟩ := ownG_shape ho
    obtain ⟨s9, hs9⟩ : ∃ s9, s9 = d.extract k d.size := ⟨_, rfl⟩
    have hslc : ∀ W : World, (Instr.slice 9 (.string d) (some (.int .i64 (k : Int))) none none).run Tryd.prog W = .ok (.string s9) W := fun W => by
      rw [run_slice_string_from_if _ 9 d .i64 _ Tryd.underlying9, if_pos ⟨by omega, by omega⟩, Int.toNat_natCast, hs9]
    have hno := l14Note_any s9 w1 (by have := HD.out; rw [hs9, ByteArray.size_extract]; omega)
    have HO := Lib.hid ho
    have HK := Lib.hid hk
    have hs1 := hb.out.size
    cases hn : noteT (d.extract k d.size) with
    | none =>
      have HE := Lib.hid (notesTo_end hnt.out hn)
      have hv : noteV s9 = (nt0, 0) := by unfold noteV; rw [hs9, hn]; rfl
      rw [hv] at hno
      clear hn hs9 hv ho hk
      go_wp2_with fail
      refine hno.mono ?_
      rintro e w2 ⟨rfl, hb2⟩
      have HO2 := Lib.hid (owns_below HO.out (hb2.trans ((Below.refl w2.heap.size w2).alloc (Nat.le_refl _) (.cells #[.int .i64 0, .int .i64 0, .string ⟨#[]⟩] 29) |>.mono hb2.size)))
      have HB2 := Lib.hid (hb.out.trans ((hb2.trans ((Below.refl w2.heap.size w2).alloc (Nat.le_refl _) (.cells #[.int .i64 0, .int .i64 0, .string ⟨#[]⟩] 29) |>.mono hb2.size)).mono hs1))
      clear hno hb2 hslc
      go_wp2
      go_ret2
      exact ⟨.slice ao L.length cap, by rw [HE.out]; rfl, by rw [HE.out]; exact HO2.out, HB2.out⟩
    | some q =>
      obtain ⟨p, n⟩ := q
      obtain ⟨hn0, hkn⟩ := hit_le hn hk
      have HT2 := Lib.hid (notesTo_hit hnt.out hk hn)
      have HLN : Hid (L.length + ([p] : List Nt).length ≤ 16777216) := by
        have h9 := notesTo_len hnt.out
        have := HD.out
        show L.length + 1 ≤ _
        omega
      have hv : noteV s9 = (p, n) := by unfold noteV; rw [hs9, hn]; rfl
      rw [hv] at hno
      clear hn hs9 hv ho hk
      obtain ⟨p1, p2, p3⟩ := p
      have hnz : ((n : Int) == 0) = false := by simp; omega
      go_wp2_with fail
      refine hno.mono ?_
      rintro e w2 ⟨rfl, hb2⟩
      have hbn : Below w2.heap.size w2 (w2.alloc (.cells #[.int .i64 p1, .int .i64 p2, .string p3] 29)) := (Below.refl w2.heap.size w2).alloc (Nat.le_refl _) _
      have HO2 := Lib.hid (owns_below HO.out (hb2.trans (hbn.mono hb2.size)))
      have HB2 := Lib.hid (hb.out.trans ((hb2.trans (hbn.mono hb2.size)).mono hs1))
      obtain ⟨w3, hw3⟩ : ∃ w3, w3 = w2.alloc (.cells #[.int .i64 p1, .int .i64 p2, .string p3] 29) := ⟨_, rfl⟩
      have hoa : OwnNt (w3.alloc (.cells #[.int .i64 p1, .int .i64 p2, .string p3] 29)) w.heap.size (.slice ao L.length cap) L := by rw [hw3]; exact HO2.out.alloc _
      have hrq : RdG ntf 3 (w3.alloc (.cells #[.int .i64 p1, .int .i64 p2, .string p3] 29)) (.slice (some ⟨w3.heap.size, 0, none⟩) 1 1) [(p1, p2, p3)] := rdG_one ntW w3 (p1, p2, p3) 29
      have hsA : w.heap.size ≤ (w3.alloc (.cells #[.int .i64 p1, .int .i64 p2, .string p3] 29)).heap.size := by rw [World.size_alloc, hw3]; have := HB2.out.size; omega
      have HBA : Hid (Below w.heap.size w (w3.alloc (.cells #[.int .i64 p1, .int .i64 p2, .string p3] 29))) := by rw [hw3]; exact HB2.out.alloc HB2.out.size _
      have hln := HLN.out
      rw [hw3] at hoa hrq hsA HBA
      have HGB := Lib.hid (fun j e => (hoa.lt j e).1)
      clear hno hb2 hslc hbn hw3
      go_wp2_with (at_builtin; refine own_stepG (ntY.ty ntW) ntW rfl _ _ rfl w.heap.size _ (.slice (some ⟨(w2.alloc (.cells #[.int .i64 p1, .int .i64 p2, .string p3] 29)).heap.size, 0, none⟩) 1 1) L [(p1, p2, p3)] rfl (by first | rfl | simp [Act.eval]) hoa hrq hln hsA ?_)
      intro v5 w5 ho5 hg5 hi5
      have hd9 := HD.out
      have HO5 := Lib.hid ho5
      have HB5 := Lib.hid (HBA.out.grown hg5 HBA.out.size (fun j e => HGB.out j e))
      clear ho5 hg5 hi5 hoa hrq hsA
      go_wp2
      go_roundw
      case rel => exact ⟨_, k + n, by go_num, hkn, HO5.out, HT2, HB5⟩
      case measure => simp [intOf]; omega
end Go.Proofs.YtfoncmeplofedaqDoor
