/- FnExactReadTexts: at every argument impl.ReadTexts answers as spec.ReadTexts, its answer owns its memory, behind another call too. For every text, without a condition. -/
import Derived.Test.YtfoncmeplofedahReadTexts2
import Derived.Test.YtfoncmeplofedahMarks
import Derived.ProofKit
import Derived.OpenShut
import Derived.ChangeOld
namespace Go.Proofs.Ytfoncmeplofedah.exReadTexts
open Go.ChangeShapes Go.WideShapes Go.ChangeAt Go.RowKit
open Go.ChangeMaps (open_string shut_string)
set_option linter.unusedVariables false

theorem own : ownKnob Try.prog.godebug = none := by kernel_rfl
theorem laidOut : laidOutB Try.prog = true := by kernel_rfl

theorem fin_len {α : Type} (it : Nat → Option (α × Nat)) : ∀ c p l q, itemsAt it c p = some (l, q) → l.length = c := by
  intro c
  induction c with
  | zero => intro p l q h; simp [itemsAt] at h; rw [h.1]; rfl
  | succ c ih =>
    intro p l q h
    rw [itemsAt] at h
    cases hx : it p with
    | none => rw [hx] at h; cases h
    | some y =>
      obtain ⟨x, k⟩ := y
      rw [hx] at h
      simp only at h
      cases hy : itemsAt it c (p + k) with
      | none => rw [hy] at h; cases h
      | some z =>
        obtain ⟨l', q'⟩ := z
        rw [hy] at h
        simp only [Option.some.injEq, Prod.mk.injEq] at h
        rw [← h.1, List.length_cons, ih _ _ _ hy]

theorem nums_len (s : ByteArray) : ((readTexts s).getD []).length ≤ 200 := by
  unfold readTexts readL
  cases h : rdP (byts s) 0 with
  | none => simp
  | some x =>
    obtain ⟨c, k⟩ := x
    simp only
    by_cases hc : 200 < c
    · rw [if_pos hc]; simp
    · rw [if_neg hc]
      unfold fin
      cases hy : itemsAt (rdT s) c k with
      | none => simp
      | some z =>
        obtain ⟨l, q⟩ := z
        have hl := fin_len _ _ _ _ _ hy
        simp only
        by_cases hq : q = (byts s).length
        · rw [if_pos hq]; simp; omega
        · rw [if_neg hq]; simp

set_option maxHeartbeats 1000000 in
theorem walk (s : ByteArray) (w : World) :
    Calls Try.prog 3 #[.string s] w fun e w' => e = .returned (.bool true) ∧ Below w.heap.size w w' := by
  by_cases hbig : 1048576 < (s.size : Int)
  · go_enter Try.func3, Try.ntmps3
    go_wp2
    go_ret
    exact ⟨rfl, Below.refl _ _⟩
  · have hs : s.size ≤ 1048576 := by omega
    have hl := nums_len s
    obtain ⟨R, hR⟩ : ∃ R, R = readTexts s := ⟨_, rfl⟩
    rw [← hR] at hl
    obtain ⟨L, hL⟩ : ∃ L, L = R.getD [] := ⟨_, rfl⟩
    obtain ⟨B, hB⟩ : ∃ B, B = R.isSome := ⟨_, rfl⟩
    rw [← hL] at hl
    have HE : Hid (∀ w e w', TxtsEnd s w e w' → ∃ v, e = .returned (.tuple #[v, .bool B]) ∧ w'.ownsRow w.heap.size 9 1 v L.length (cellsS L) ∧ Below w.heap.size w w') := by
      intro w e w' h
      unfold TxtsEnd at h
      rw [← hR, ← hL, ← hB] at h
      exact h
    clear hR hL hB
    go_enter Try.func3, Try.ntmps3
    go_wp2_with fail
    refine (specReadTexts_any s _ hs).mono ?_
    intro e w1 h1
    obtain ⟨v1, rfl, ho1, hb1⟩ := HE.out _ _ _ h1
    clear h1
    go_wp2_with fail
    refine (implReadTexts_any s _ hs).mono ?_
    intro e w2 h2
    obtain ⟨v2, rfl, ho2, hb2⟩ := HE.out _ _ _ h2
    clear h2
    have ho1' := owns_below ho1 hb2
    go_wp2_with fail
    refine (eqS_same v2 v1 _ _ (rd_owns ho2) (rd_owns ho1') (by omega)).mono ?_
    rintro e w3 ⟨rfl, hb3⟩
    have ho13 := owns_below ho1' hb3
    have ho23 := owns_below ho2 hb3
    have hBB : (B != B) = false := by simp
    go_wp2_with fail
    refine (markS_one w1.heap.size v2 _ _ ho23 (by omega)).mono ?_
    rintro e w4 ⟨rfl, ho24, hg4⟩
    have ho14 := owns_grown ho13 hg4 (fun k hk h => by have h1 := (ho1.lt k h).2; have h2 := (ho2.lt k hk).1; omega)
    have hb4 : Below w1.heap.size w3 w4 := (Below.refl _ _).grown hg4 (by have := hb2.size; have := hb3.size; omega) (fun k hk => (ho2.lt k hk).1)
    go_wp2_with fail
    refine (heldS_one v2 _ _ (rd_owns ho24) (by omega)).mono ?_
    rintro e w5 ⟨rfl, hb5⟩
    have ho15 := owns_below ho14 hb5
    have ho25 := owns_below ho24 hb5
    go_wp2_with fail
    refine (implReadTexts_any s _ hs).mono ?_
    intro e w6 h6
    obtain ⟨v3, rfl, ho3, hb6⟩ := HE.out _ _ _ h6
    clear h6
    have ho16 := owns_below ho15 hb6
    have ho26 := owns_below ho25 hb6
    go_wp2_with fail
    refine (eqS_same v3 v1 _ _ (rd_owns ho3) (rd_owns ho16) (by omega)).mono ?_
    rintro e w7 ⟨rfl, hb7⟩
    have ho27 := owns_below ho26 hb7
    go_wp2_with fail
    refine (heldS_one v2 _ _ (rd_owns ho27) (by omega)).mono ?_
    rintro e w8 ⟨rfl, hb8⟩
    have hfin : Below w.heap.size w w8 := by
      have s1 := hb1.size
      have s2 := hb2.size
      have s3 := hb3.size
      have s4 := hb4.size
      have s5 := hb5.size
      have s6 := hb6.size
      have s7 := hb7.size
      exact hb1.trans ((hb2.mono s1).trans ((hb3.mono (by omega)).trans ((hb4.mono s1).trans ((hb5.mono (by omega)).trans ((hb6.mono (by omega)).trans ((hb7.mono (by omega)).trans (hb8.mono (by omega))))))))
    clear ho1 ho1' ho13 ho23 ho14 ho24 ho15 ho25 ho16 ho26 ho27 ho2 ho3 hb1 hb2 hb3 hb4 hb5 hb6 hb7 hb8 hg4
    go_wp2
    go_ret
    exact ⟨rfl, hfin⟩

set_option maxRecDepth 100000 in
theorem lifted (os : Os) (started : os.Started) (H : Type) (enc : TypeId × Value → H) :
    ReturnsInHanded {} Try.checked os 3 .any (Rows.fnExactReadTextsSpec.pre6 enc Try.prog Try.f3 Rows.fnExactReadTextsRow.domain false) (Rows.fnExactReadTextsSpec.post enc Try.prog Try.f3 false true false false) := by
  refine returnsInHanded_of_change (C := Try.checked) own started (by kernel_rfl) Try.func3
    (ChangeSpec.witness6 (enc := enc) (C := Try.checked) false ⟨#[], #[.string ⟨#[]⟩], []⟩ 8 (by kernel_rfl) (by kernel_rfl) (by kernel_rfl) (by kernel_rfl)) ?_
  intro W base args ds gs before hval0 hW hcnd _
  have hval : ∀ (j : Nat) t v, Try.f3.params[j]? = some t → args[j]? = some v → Value.okWide Try.prog W .any base t v := hval0
  have hW' := hW
  obtain ⟨p, q, hA0, hV, rfl, hfz, hnd⟩ := hW
  have hA : DataW.TrodAll enc Try.prog W 0 (fun _ => true) true Try.f3.params.toList args.toList ds p := hA0
  rw [Try.params3] at hA hval
  obtain ⟨v0, vs0, d0, ds0, p0, q0, hargs, rfl, rfl, h0, r0⟩ := trodAll_cons hA
  obtain ⟨rfl, rfl, rfl⟩ := trodAll_nil r0
  obtain rfl : args = #[v0] := by cases args; simp_all
  obtain ⟨rfl, rfl⟩ := trodVars_none hV
  obtain ⟨s0, rfl, rfl, rfl, hs0⟩ := open_string Try.underlying9 (hval 0 9 v0 rfl rfl) h0
  clear hA0 hval0
  refine (walk s0 W).mono fun e W' ⟨he, bel⟩ => ?_
  subst he
  exact ⟨_, rfl, _, _, _, [], _, [], hW', trodAll_mk1 (shut_bool Try.underlying4 _), (trodAll_cons_mk (shut_string Try.underlying9 hs0) trodAll_mk0), rfl, bel.frame _, fun h => by cases h⟩

theorem over : Rows.fnExactReadTextsRow.holds Try.pinned (OpenSpec.ofChange Rows.fnExactReadTextsSpec) :=
  OpenClaim.holds_of_wide 3 Try.f3 rfl rfl rfl rfl rfl rfl rfl ⟨rfl, rfl, rfl, rfl, rfl⟩ rfl rfl rfl rfl rfl (by kernel_rfl) Try.func3 (by kernel_rfl)
    (of_decide_eq_true (by kernel_rfl)) (by unfold Func.isWrapper; first | (rw [if_pos (by decide +kernel)]; kernel_rfl) | (rw [if_neg (by decide +kernel)]; exact ⟨rfl, rfl⟩))
    (fun os started H enc _ => lifted os started H enc)

theorem proved : Rows.FnExactReadTextsSaid := over
end Go.Proofs.Ytfoncmeplofedah.exReadTexts
