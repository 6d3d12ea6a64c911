/- FnExactNotes: at every disk impl.Notes answers as spec.Notes, its answer owns its memory, behind another call too. For every text; errors.errorType, which errors.As reads, reads as the row lists it. -/
import Derived.Test.YtfoncmeplofedaqDoorJouW
import Derived.Test.YtfoncmeplofedaqDoorNoA
import Derived.Test.YtfoncmeplofedaqDoorNtS
import Derived.Test.YtfoncmeplofedaqDoorErrL
import Derived.Test.YtfoncmeplofedaqDoorArgs
import Derived.Test.YtfoncmeplofedaqDoorCards
import Derived.Test.YtfoncmeplofedaqDoorTie
import Derived.SevenTiedAt
import Derived.LaidMore
import Derived.Stop.Joined
namespace Go.Proofs.YtfoncmeplofedaqDoor.exNotes
open Go.ChangeShapes Go.WideShapes Go.ChangeAt Go.RowKit
open Go.ChangeMaps (open_string shut_string)
set_option linter.unusedVariables false
set_option maxHeartbeats 2000000 in
set_option maxRecDepth 100000 in
theorem walk (d : ByteArray) (w : World) (hL : laidMetH Tryd.prog Rows.fnExactNotesRow.laid w) (hd9 : d.size ≤ 9223372036854775807) :
    Calls Tryd.prog 3 #[.string d] w fun e w' => e = .returned (.bool true) ∧ Below w.heap.size w w' := by
  by_cases hbig : 1048576 < (d.size : Int)
  · clear hL
    go_enter Tryd.func3, Tryd.ntmps3
    go_wp2
    go_ret
    exact ⟨rfl, Below.refl _ _⟩
  · have HE : Hid (∀ W, Below w.heap.size w W → ErrT W) := fun W h => errT_below (errT_of hL.2) h
    have hs : d.size ≤ 1048576 := by omega
    have HSP := Lib.hid (fun W => specNotes_any d W hs)
    have HIM := Lib.hid (fun W h => implNotes_any d W (HE.out W h) hs)
    have hl : (notesT d).1.length ≤ 1048576 := by
      have h9 := notesF_len (d.size + 1) d 0 (Nat.zero_le _)
      have h8 : (notesT d).1.length + 0 ≤ (notesT d).2 ∧ (notesT d).2 ≤ d.size := h9
      omega
    generalize (notesT d).2 = K at HSP HIM
    generalize (notesT d).1 = L at HSP HIM hl
    have hKK : ((K : Int) != (K : Int)) = false := by simp
    have HL := Lib.hid hl
    clear hL HE
    go_enter Tryd.func3, Tryd.ntmps3
    go_wp2_with fail
    refine (HSP.out _).mono ?_
    rintro e w1 ⟨v1, rfl, ho1, hb1⟩
    go_wp2_with fail
    refine (HIM.out w1 hb1).mono ?_
    rintro e w2 ⟨v2, rfl, ho2, hb2⟩
    have ho1' := owns_below ho1 hb2
    go_wp2_with fail
    refine (eqNoteS_same v2 v1 L _ (rdG_owns ntW ho2) (rdG_owns ntW ho1') (by have := HL.out; omega)).mono ?_
    rintro e w3 ⟨rfl, hb3⟩
    have ho13 := owns_below ho1' hb3
    have ho23 := owns_below ho2 hb3
    go_wp2_with fail
    refine (markNoteS_any w1.heap.size v2 1 L _ ho23 HL.out (by decide) (by decide)).mono ?_
    rintro e w4 ⟨rfl, ho24, hg4⟩
    have ho14 := owns_grown ho13 hg4 (fun k hk h => by have h1 := (ho1.lt k h).2; have h2 := (ho2.lt k hk).1; omega)
    have hb4 : Below w1.heap.size w3 w4 := (Below.refl _ _).grown hg4 (by have := hb2.size; have := hb3.size; omega) (fun k hk => (ho2.lt k hk).1)
    obtain ⟨m, hm⟩ : ∃ m, m = 1 + 3 * L.length := ⟨_, rfl⟩
    have HM : Hid (m = 1 + 3 * L.length) := hm
    have hm0 : ¬ (m : Int) < 0 := by omega
    have hmm : ((m : Int) != (m : Int)) = false := by simp
    rw [← hm]
    clear hm
    go_wp2_with fail
    refine (heldNoteS_any v2 1 L.length _ (rdG_owns ntW ho24) HL.out (by decide) (by decide)).mono ?_
    rintro e w5 ⟨rfl, hb5⟩
    rw [← HM.out]
    have ho15 := owns_below ho14 hb5
    have ho25 := owns_below ho24 hb5
    have hb05 : Below w.heap.size w w5 := by
      have s1 := hb1.size
      have s2 := hb2.size
      have s3 := hb3.size
      exact hb1.trans ((hb2.mono s1).trans ((hb3.mono (by omega)).trans ((hb4.mono s1).trans (hb5.mono (by have := hb4.size; omega)))))
    go_wp2_with fail
    refine (HIM.out w5 hb05).mono ?_
    rintro e w6 ⟨v3, rfl, ho3, hb6⟩
    have ho16 := owns_below ho15 hb6
    have ho26 := owns_below ho25 hb6
    go_wp2_with fail
    refine (eqNoteS_same v3 v1 L _ (rdG_owns ntW ho3) (rdG_owns ntW ho16) (by have := HL.out; omega)).mono ?_
    rintro e w7 ⟨rfl, hb7⟩
    have ho27 := owns_below ho26 hb7
    go_wp2_with fail
    refine (heldNoteS_any v2 1 L.length _ (rdG_owns ntW ho27) HL.out (by decide) (by decide)).mono ?_
    rintro e w8 ⟨rfl, hb8⟩
    rw [← HM.out]
    have hfin : Below w.heap.size w w8 := by
      have s5 := hb05.size
      have s6 := hb6.size
      have s7 := hb7.size
      exact hb05.trans ((hb6.mono s5).trans ((hb7.mono (by omega)).trans (hb8.mono (by omega))))
    clear ho1 ho1' ho13 ho23 ho14 ho24 ho15 ho25 ho16 ho26 ho27 ho2 ho3 hb1 hb2 hb3 hb4 hb5 hb6 hb7 hb8 hg4 hb05 HSP HIM
    go_wp2
    go_ret
    exact ⟨rfl, hfin⟩

theorem door_met (os : Os) (args : Array Value) : laidMetH Tryd.prog Rows.fnExactNotesRow.laid ((World.doorLaid Tryd.prog 400 os).forCall (fun _ _ => 0) ⟨#[], args, []⟩).memory :=
  laidMetH_of_parts3 (fuel := 8) (laidMet_of_run' 8 (by kernel_rfl) (by kernel_rfl)) (by kernel_rfl) (by kernel_rfl)
set_option maxRecDepth 100000 in
theorem lifted (os : Os) (started : os.Started) (H : Type) (enc : TypeId × Value → H) :
    ReturnsInHanded {} Tryd.checked os 3 .any (fun w args => (Rows.fnExactNotesSpec.pre enc Tryd.prog Tryd.f3 [] false w args ∧ laidMetH Tryd.prog Rows.fnExactNotesRow.laid w) ∧ sizedMet enc Tryd.prog Tryd.f3 (OpenSpec.ofChange Rows.fnExactNotesSpec) false w args)
      (Rows.fnExactNotesSpec.post enc Tryd.prog Tryd.f3 false true false false) := by
  refine returnsInHanded_of_change_and (C := Tryd.checked) (X := fun w _ => laidMetH Tryd.prog Rows.fnExactNotesRow.laid w) (fun _ _ _ hh h => h.of_heap hh) own started (by kernel_rfl) Tryd.func3
    (ChangeSpec.witness_shaped (enc := enc) (C := Tryd.checked) (os := os) (X := fun w _ => laidMetH Tryd.prog Rows.fnExactNotesRow.laid w) false (World.doorLaid Tryd.prog 400 os) #[.string ⟨#[]⟩] 8 rfl (World.shaped_of_RefB (by kernel_rfl) (by kernel_rfl)) (by kernel_rfl) (by kernel_rfl) (by kernel_rfl) (door_met os _)) ?_
  intro W base args ds gs before hval0 hW _ _ hL _
  have hval : ∀ (j : Nat) t v, Tryd.f3.params[j]? = some t → args[j]? = some v → Value.okWide Tryd.prog W .any base t v := hval0
  have hW' := hW
  obtain ⟨p, q, hA0, hV, rfl, hfz, hnd⟩ := hW
  have hA : DataW.TrodAll enc Tryd.prog W 0 (fun _ => true) true Tryd.f3.params.toList args.toList ds p := hA0
  rw [Tryd.params3] at hA hval
  obtain ⟨v0, vs0, d0, ds0, p0, q0, hargs0, rfl, rfl, h0, r0⟩ := trodAll_cons hA
  obtain ⟨rfl, rfl, rfl⟩ := trodAll_nil r0
  obtain rfl : args = #[v0] := by cases args; simp_all
  obtain ⟨rfl, rfl⟩ := trodVars_none hV
  obtain ⟨s0, rfl, rfl, rfl, hs0⟩ := open_string Tryd.underlying9 (hval 0 9 v0 rfl rfl) h0
  clear hA0 hval0
  refine (walk s0 W hL hs0).mono fun e W' ⟨he, bel⟩ => ?_
  subst he
  exact ⟨_, rfl, _, _, _, [], _, [], hW', trodAll_mk1 (shut_bool Tryd.underlying4 _), (trodAll_cons_mk (shut_string Tryd.underlying9 hs0) trodAll_mk0), rfl, bel.frame _, fun h => by cases h⟩

theorem over : Rows.fnExactNotesRow.holds Tryd.pinned (OpenSpec.ofChange Rows.fnExactNotesSpec) :=
  OpenClaim.holds_of_wide 3 Tryd.f3 rfl rfl rfl rfl rfl rfl rfl ⟨rfl, rfl, rfl, rfl, rfl⟩ rfl rfl rfl rfl rfl (by kernel_rfl) Tryd.func3 (by kernel_rfl)
    (of_decide_eq_true (by kernel_rfl)) (by unfold Func.isWrapper; first | (rw [if_pos (by decide +kernel)]; kernel_rfl) | (rw [if_neg (by decide +kernel)]; exact ⟨rfl, rfl⟩))
    (fun os started H enc _ => lifted os started H enc)

theorem proved : Rows.FnExactNotesCardSaid :=
  Claim7.holds_tied_plain_at .later [] Rows.fnExactNotesCard.laidKinds true Rows.fnExactNotesCard.stood.harness Rows.fnExactNotesCard.stood.looks
    over (fun _ h => by cases h) (by kernel_rfl) (fun _ h => by cases h) fnExactNotes_row_tie rfl ⟨rfl, rfl⟩ (by kernel_rfl) rfl
    (fun f fn hf hfn => by
      obtain rfl : f = 3 := Option.some.inj ((show Tryd.prog.funcNamed Rows.fnExactNotesRow.func = some 3 by kernel_rfl).symm.trans hf) |>.symm
      obtain rfl : fn = Tryd.f3 := (Option.some.inj (Tryd.func3.symm.trans hfn)).symm
      exact ⟨by kernel_rfl, fun j t ht => by
        rw [Tryd.params3] at ht
        have hm : t ∈ [9] := by simpa using Array.mem_of_getElem? ht
        have hall : ([9].all fun u => !Tryd.prog.wantsStandIn u) = true := by kernel_rfl
        exact (show Tryd.prog.wantsStandIn t = false by simpa using List.all_eq_true.1 hall t hm)⟩)
    (by kernel_rfl)
end Go.Proofs.YtfoncmeplofedaqDoor.exNotes
