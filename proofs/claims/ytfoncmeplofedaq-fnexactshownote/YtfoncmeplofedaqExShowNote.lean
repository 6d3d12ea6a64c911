/- FnExactShowNote: at every note impl.ShowNote answers as spec.ShowNote. For every note, without a condition. -/
import Derived.Test.YtfoncmeplofedaqNtR
import Derived.Test.YtfoncmeplofedaqArgNotes
import Derived.Test.YtfoncmeplofedaqJouV
namespace Go.Proofs.Ytfoncmeplofedaq.exShowNote
open Go.ChangeShapes Go.WideShapes Go.ChangeAt Go.RowKit
set_option linter.unusedVariables false
set_option maxHeartbeats 2000000 in
set_option maxRecDepth 100000 in
theorem walk (k a : Int) (t : ByteArray) (w : World) (ht : t.size ≤ 9223372036854775807) :
    Calls Try.prog 6 #[.agg #[.int .i64 k, .int .i64 a, .string t]] w fun e w' => e = .returned (.bool true) ∧ Below w.heap.size w w' := by
  have HBX : Hid (∀ W, Below (w.heap.size + 1) (w.alloc (.cells #[.int .i64 k, .int .i64 a, .string t] 43)) W → (Below w.heap.size w W ∧ w.heap.size + 1 ≤ W.heap.size) ∧ W.cell? ⟨w.heap.size, 0, none⟩ = some (.int .i64 k) ∧ W.cell? ⟨w.heap.size, 1, none⟩ = some (.int .i64 a) ∧ W.cell? ⟨w.heap.size, 2, none⟩ = some (.string t)) := fun W h => by
    have hb : Below w.heap.size w (w.alloc (.cells #[.int .i64 k, .int .i64 a, .string t] 43)) := (Below.refl _ _).alloc (Nat.le_refl _) _
    have hx := (h.block w.heap.size (by omega)).trans (heap_alloc_new w (.cells #[.int .i64 k, .int .i64 a, .string t] 43))
    exact ⟨⟨hb.trans (h.mono (by omega)), by have := h.size; rw [World.size_alloc] at this; omega⟩, cell_of_row W _ 0 _ _ (0, 0) hx, cell_of_row W _ 1 _ _ (0, 0) hx, cell_of_row W _ 2 _ _ (0, 0) hx⟩
  have hsz := szNote_any k a t 1048576 (w.alloc (.cells #[.int .i64 k, .int .i64 a, .string t] 43)) (by decide) ht
  rw [World.size_alloc] at hsz
  obtain ⟨⟨hb0, hs0⟩, x0, x1, x2⟩ := HBX.out _ (Below.refl _ _)
  by_cases hbig : (1048576 : Int) - (t.size : Int) < 0
  · rw [if_pos hbig] at hsz
    clear hb0 hs0
    go_enter Try.func6, Try.ntmps6
    go_wp2_with fail
    refine hsz.mono ?_
    rintro e w1 ⟨rfl, hb1⟩
    have HB := Lib.hid (HBX.out w1 hb1).1.1
    clear hsz hb1 HBX
    go_wp2
    go_ret
    exact ⟨rfl, HB.out⟩
  · rw [if_neg hbig] at hsz
    have hst : t.size ≤ 1048576 := by omega
    have hts := Lib.hid (fun W => specShowNote_any k a t W hst)
    have hti := Lib.hid (fun W => implShowNote_any k a t W hst)
    have htn := Lib.hid (fun W => toNote_any k a t W)
    generalize showT (k, a, t) = R at hts hti
    have hne : (!R.toList == R.toList) = false := by simp
    have hzz : ¬ ((1048576 : Int) - (t.size : Int) < 0) := hbig
    clear hb0 hs0 hbig
    go_enter Try.func6, Try.ntmps6
    go_wp2_with fail
    refine hsz.mono ?_
    rintro e w1 ⟨rfl, hb1⟩
    have HB1 := Lib.hid hb1
    obtain ⟨⟨_, hs1⟩, y0, y1, y2⟩ := HBX.out w1 HB1.out
    clear hsz hb1 x0 x1 x2
    go_wp2_with fail
    refine (htn.out _).mono ?_
    rintro e w2 ⟨rfl, hb2⟩
    have HB2 := Lib.hid (HB1.out.trans (hb2.mono hs1))
    obtain ⟨⟨_, hs2⟩, z0, z1, z2⟩ := HBX.out w2 HB2.out
    clear hb2 y0 y1 y2
    go_wp2_with fail
    refine (hts.out _).mono ?_
    rintro e w3 ⟨rfl, hb3⟩
    have HB3 := Lib.hid (HB2.out.trans (hb3.mono hs2))
    obtain ⟨⟨_, hs3⟩, u0, u1, u2⟩ := HBX.out w3 HB3.out
    clear hb3 z0 z1 z2
    go_wp2_with fail
    refine (htn.out _).mono ?_
    rintro e w4 ⟨rfl, hb4⟩
    have HB4 := Lib.hid (HB3.out.trans (hb4.mono hs3))
    have hs4 := (HBX.out w4 HB4.out).1.2
    clear hb4 u0 u1 u2
    go_wp2_with fail
    refine (hti.out _).mono ?_
    rintro e w5 ⟨rfl, hb5⟩
    have HB5 := Lib.hid (HBX.out w5 (HB4.out.trans (hb5.mono hs4))).1.1
    clear hb5 HBX
    go_wp2
    go_ret
    exact ⟨rfl, HB5.out⟩

set_option maxRecDepth 100000 in
theorem lifted (os : Os) (started : os.Started) (H : Type) (enc : TypeId × Value → H) :
    ReturnsInHanded {} Try.checked os 6 .any (Rows.fnExactShowNoteSpec.pre6 enc Try.prog Try.f6 Rows.fnExactShowNoteRow.domain false) (Rows.fnExactShowNoteSpec.post enc Try.prog Try.f6 false true false false) := by
  refine returnsInHanded_of_change (C := Try.checked) own started (by kernel_rfl) Try.func6
    (ChangeSpec.witness6 (enc := enc) (C := Try.checked) false ⟨#[], #[.agg #[.int .i64 0, .int .i64 0, .string ⟨#[]⟩]], []⟩ 8 (by kernel_rfl) (by kernel_rfl) (by kernel_rfl) (by kernel_rfl)) ?_
  intro W base args ds gs before hval0 hW hcnd _
  have hval : ∀ (j : Nat) t v, Try.f6.params[j]? = some t → args[j]? = some v → Value.okWide Try.prog W .any base t v := hval0
  have hW' := hW
  obtain ⟨p, q, hA0, hV, rfl, hfz, hnd⟩ := hW
  have hA : DataW.TrodAll enc Try.prog W 0 (fun _ => true) true Try.f6.params.toList args.toList ds p := hA0
  rw [Try.params6] at hA hval
  obtain ⟨v0, vs0, d0, ds0, p0, q0, hargs0, rfl, rfl, h0, r0⟩ := trodAll_cons hA
  obtain ⟨rfl, rfl, rfl⟩ := trodAll_nil r0
  obtain rfl : args = #[v0] := by cases args; simp_all
  obtain ⟨rfl, rfl⟩ := trodVars_none hV
  have k0 := h0
  have lt0 : ∀ x ∈ p0, x.block < W.heap.size := by obtain ⟨m, hm⟩ := k0; exact DataW.trod_lt m _ _ _ hm
  obtain ⟨x0, y0, t0, rfl, hs0⟩ := arg_note (hval 0 43 v0 rfl rfl) h0
  clear hA0 hval0
  refine (walk x0 y0 t0 W hs0).mono fun e W' ⟨he, bel⟩ => ?_
  subst he
  exact ⟨_, rfl, _, _, _, [], _, [], hW', trodAll_mk1 (shut_bool Try.underlying4 _), (trodAll_cons_mk (Below.trod laidOut (by kernel_rfl) (of_decide_eq_true (by kernel_rfl)) k0 bel lt0) trodAll_mk0), rfl, bel.frame _, fun h => by cases h⟩

theorem over : Rows.fnExactShowNoteRow.holds Try.pinned (OpenSpec.ofChange Rows.fnExactShowNoteSpec) :=
  OpenClaim.holds_of_wide 6 Try.f6 rfl rfl rfl rfl rfl rfl rfl ⟨rfl, rfl, rfl, rfl, rfl⟩ rfl rfl rfl rfl rfl (by kernel_rfl) Try.func6 (by kernel_rfl)
    (of_decide_eq_true (by kernel_rfl)) (by unfold Func.isWrapper; first | (rw [if_pos (by decide +kernel)]; kernel_rfl) | (rw [if_neg (by decide +kernel)]; exact ⟨rfl, rfl⟩))
    (fun os started H enc _ => lifted os started H enc)

theorem proved : Rows.FnExactShowNoteSaid := over
end Go.Proofs.Ytfoncmeplofedaq.exShowNote
