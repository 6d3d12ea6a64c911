/- CONTRACTS: the specification's NoteOk, ShowNote. -/
import Derived.Test.YtfoncmeplofedaqGreatDoorBuna
import Derived.Test.YtfoncmeplofedaqGreatDoorReadNums
import Derived.Test.YtfoncmeplofedaqGreatDoorIn1
namespace Go.Proofs.YtfoncmeplofedaqGreatDoor
open Go.RowKit
set_option linter.unusedVariables false
abbrev ntV (p : Nt) : Value := .agg #[.int .i64 p.1, .int .i64 p.2.1, .string p.2.2]
set_option maxHeartbeats 4000000 in
set_option maxRecDepth 100000 in
theorem specNoteOk_any (k a : Int) (t : ByteArray) (w : World) (ht : t.size ≤ 1048576) :
    Calls Tryz.prog 14 #[.agg #[.int .i64 k, .int .i64 a, .string t]] w fun e w' => e = .returned (.bool (noteB (k, a, t))) ∧ Below w.heap.size w w' := by
  have hb0 := (Below.refl w.heap.size w).alloc (Nat.le_refl _) (.cells #[.int .i64 k, .int .i64 a, .string t] 40)
  have hin := l1InB_any a 0 100000
  cases hA : (decide (0 ≤ a) && decide (a ≤ 100000)) with
  | false =>
    have e : noteB (k, a, t) = false := by
      unfold noteB
      rw [show decide (0 ≤ a ∧ a ≤ 100000) = false by rw [← hA]; simp, Bool.false_and, Bool.false_and]
    rw [e]
    rw [hA] at hin
    clear e hA
    go_enter Tryz.func14, Tryz.ntmps14
    go_wp2_with fail
    refine (hin _).mono ?_
    rintro e w8 ⟨rfl, rfl⟩
    go_wp2
    go_ret
    exact ⟨rfl, hb0⟩
  | true =>
    have eA : decide (0 ≤ a ∧ a ≤ 100000) = true := by rw [← hA]; simp
    rw [hA] at hin
    by_cases hS : 2000 < t.size
    · have e : noteB (k, a, t) = false := by
        unfold noteB
        rw [eA, show decide (t.size ≤ 2000) = false from decide_eq_false (by omega), Bool.and_false, Bool.false_and]
      rw [e]
      have hI : (2000 : Int) < (t.size : Int) := by omega
      clear e hA eA
      go_enter Tryz.func14, Tryz.ntmps14
      go_wp2_with fail
      refine (hin _).mono ?_
      rintro e w8 ⟨rfl, rfl⟩
      go_wp2
      go_ret
      exact ⟨rfl, hb0⟩
    · have hI : ¬ (2000 : Int) < (t.size : Int) := by omega
      by_cases hk : k = 2
      · have e : noteB (k, a, t) = marksB t := by
          unfold noteB
          rw [eA, show decide (t.size ≤ 2000) = true from decide_eq_true (by omega), Bool.true_and, Bool.true_and]
          simp [hk]
        rw [e]
        have hrn := Lib.hid (fun W => specReadNumbers_any t W ht)
        subst hk
        have hb1 := Lib.hid hb0
        unfold marksB
        cases hq : readNums (byts t) with
        | none =>
          have HQ := Lib.hid hq
          clear e hA eA hb0 hq ht
          go_enter Tryz.func14, Tryz.ntmps14
          go_wp2_with fail
          refine (hin _).mono ?_
          rintro e w8 ⟨rfl, rfl⟩
          go_wp2_with fail
          refine (hrn.out _).mono ?_
          rintro e w9 ⟨v, he, ho, hb⟩
          rw [HQ.out] at he
          subst he
          have HB := Lib.hid (hb1.out.trans (hb.mono hb1.out.size))
          clear hrn ho hb
          go_wp2
          go_ret
          exact ⟨rfl, HB.out⟩
        | some l =>
          have HQ := Lib.hid hq
          have hlr : l.length ≤ 1099511627776 := by have := (read_back (byts_bytes t) hq).2.1; omega
          clear e hA eA hb0 hq ht
          go_enter Tryz.func14, Tryz.ntmps14
          go_wp2_with fail
          refine (hin _).mono ?_
          rintro e w8 ⟨rfl, rfl⟩
          go_wp2_with fail
          refine (hrn.out _).mono ?_
          rintro e w9 ⟨v, he, ho, hb⟩
          rw [HQ.out] at he ho
          subst he
          have hB := hb1.out.trans (hb.mono hb1.out.size)
          have hri := l1Rises_any v l w9 (rd_owns ho) hlr
          have HB := Lib.hid hB
          obtain ⟨vo, vc, hvv⟩ := owns_slice ho
          subst hvv
          clear hrn ho hb hB
          go_wp2_with fail
          refine hri.mono ?_
          rintro e w10 ⟨rfl, hb10⟩
          have HB2 := Lib.hid (HB.out.trans (hb10.mono HB.out.size))
          clear hri hb10
          go_wp2
          go_ret
          exact ⟨by first | rfl | simp, HB2.out⟩
      · have e : noteB (k, a, t) = decide (k = 1) := by
          unfold noteB
          rw [eA, show decide (t.size ≤ 2000) = true from decide_eq_true (by omega), Bool.true_and, Bool.true_and]
          simp [hk]
        rw [e]
        have hk2 : (k == 2) = false := by simp [hk]
        have hk1 : (k == 1) = decide (k = 1) := by by_cases h : k = 1 <;> simp [h]
        clear e hA eA ht
        go_enter Tryz.func14, Tryz.ntmps14
        go_wp2_with fail
        refine (hin _).mono ?_
        rintro e w8 ⟨rfl, rfl⟩
        go_wp2
        go_ret
        exact ⟨by first | rfl | rw [← hk1], hb0⟩
end Go.Proofs.YtfoncmeplofedaqGreatDoor
