/- FnExactNumbers: at every argument impl.Numbers answers as spec.Numbers, and writes into no argument. For every list of numbers, without a condition. -/
import Derived.Test.YtejaffjmdhnlaagNumbers
import Derived.ProofKit
import Derived.OpenShut
import Derived.ChangeOld
namespace Go.Proofs.Ytejaffjmdhnlaag.exNumbers
open Go.ChangeShapes Go.WideShapes Go.ChangeAt Go.RowKit
set_option linter.unusedVariables false

theorem own : ownKnob Try.prog.godebug = none := by kernel_rfl
theorem laidOut : laidOutB Try.prog = true := by kernel_rfl

theorem arg_rd {w : World} {x : Addr} {l c : Nat} {zs : List Int} (hl : l ≤ c) (hz : zs.length = c) (hc : ∀ i, i < zs.length → w.cell? (x.add i) = some (.int .i64 (zs.getD i 0))) :
    ∃ ys, Rd w (.slice (some x) l c) (cellsInt64S ys) := by
  have hlen : (cellsInt64S (zs.take l)).length = l := by simp; omega
  refine ⟨zs.take l, some x, c, by rw [hlen], by rw [hlen]; exact hl, fun hne => ?_⟩
  have hpos : 0 < l := by
    cases l with
    | zero => exact absurd (by simp) hne
    | succ l => omega
  have h0 := hc 0 (by omega)
  obtain ⟨b, off, spot⟩ := x
  have hspot : spot = none := by simpa [Addr.add] using World.cell?_spot h0
  subst hspot
  refine ⟨b, off, rfl, World.block_lt_of_cell? w ⟨b, off, none⟩ (by simpa [Addr.add] using h0), fun j hj => ?_⟩
  rw [hlen] at hj
  have h := hc j (by omega)
  have e : (⟨b, off, none⟩ : Addr).add j = ⟨b, off + j, none⟩ := Addr.add_lit ..
  rw [e] at h
  rw [h, ints_get _ _ j (by simp; omega), take_getD _ _ _ hj]

theorem walk (va : Value) (xs : List Int) (w : World) (ha : Rd w va (cellsInt64S xs)) :
    Calls Try.prog 5 #[va] w fun e w' => e = .returned (.bool true) ∧ Below w.heap.size w w' := by
  obtain ⟨ao, cap, rfl, hcap, hx⟩ := ha
  have hla : (cellsInt64S xs).length = xs.length := by simp
  have ha : Rd w (.slice ao xs.length cap) (cellsInt64S xs) := ⟨ao, cap, by rw [hla], hcap, hx⟩
  rw [hla] at hcap ⊢
  clear hx hla
  by_cases hbig : 1048576 < (xs.length : Int)
  · go_enter Try.func5, Try.ntmps5
    go_wp2
    go_ret
    exact ⟨rfl, Below.refl _ _⟩
  · have hl : xs.length ≤ 1048576 := by omega
    go_enter Try.func5, Try.ntmps5
    go_wp2_with fail
    refine (toInt64S_any _ xs _ ha hl).mono ?_
    rintro e w1 ⟨v1, rfl, ho1, hb1⟩
    go_wp2_with fail
    refine (specNumbers_any v1 xs _ (rd_owns ho1) (by omega)).mono ?_
    rintro e w2 ⟨rfl, hb2⟩
    obtain ⟨t, ht⟩ : ∃ t, t = asB (numsB xs) := ⟨_, rfl⟩
    have HT : Hid (t = asB (numsB xs)) := ht
    rw [← ht]
    clear ht
    have s1 := hb1.size
    have s2 := hb2.size
    have ha2 := rd_below' (rd_below ha hb1) hb2 (Nat.le_refl _)
    go_wp2_with fail
    refine (toInt64S_any _ xs _ ha2 hl).mono ?_
    rintro e w3 ⟨v3, rfl, ho3, hb3⟩
    have s3 := hb3.size
    go_wp2_with fail
    refine (implNumbers_any v3 xs _ (rd_owns ho3) (by omega)).mono ?_
    rintro e w4 ⟨rfl, hb4⟩
    rw [← HT.out]
    have s4 := hb4.size
    have ho4 := owns_below ho3 hb4
    have ha4 := rd_below (rd_below ha2 hb3) hb4
    go_wp2_with fail
    refine (toInt64S_any _ xs _ ha4 hl).mono ?_
    rintro e w5 ⟨v5, rfl, ho5, hb5⟩
    have s5 := hb5.size
    have ho45 := owns_below ho4 hb5
    go_wp2_with fail
    refine (eqInt64S_any v3 v5 xs xs _ (rd_owns ho45) (rd_owns ho5) (by omega) (by omega)).mono ?_
    rintro e w6 ⟨rfl, hb6⟩
    rw [decide_eq_true rfl]
    have hfin : Below w.heap.size w w6 := hb1.trans ((hb2.mono s1).trans ((hb3.mono (by omega)).trans ((hb4.mono (by omega)).trans ((hb5.mono (by omega)).trans (hb6.mono (by omega))))))
    clear ho1 ho3 ho4 ho5 ho45 ha2 ha4 hb1 hb2 hb3 hb4 hb5 hb6
    go_wp2
    go_ret
    exact ⟨rfl, hfin⟩

set_option maxRecDepth 100000 in
theorem lifted (os : Os) (started : os.Started) (H : Type) (enc : TypeId × Value → H) :
    ReturnsInHanded {} Try.checked os 5 .any (Rows.fnExactNumbersSpec.pre6 enc Try.prog Try.f5 Rows.fnExactNumbersRow.domain false) (Rows.fnExactNumbersSpec.post enc Try.prog Try.f5 false true false false) := by
  refine returnsInHanded_of_change (C := Try.checked) own started (by kernel_rfl) Try.func5
    (ChangeSpec.witness6 (enc := enc) (C := Try.checked) false ⟨#[], #[.slice none 0 0], []⟩ 8 (by kernel_rfl) (by kernel_rfl) (by kernel_rfl) (by kernel_rfl)) ?_
  intro W base args ds gs before hval0 hW hcnd _
  have hval : ∀ (j : Nat) t v, Try.f5.params[j]? = some t → args[j]? = some v → Value.okWide Try.prog W .any base t v := hval0
  have hW' := hW
  obtain ⟨p, q, hA0, hV, rfl, hfz, hnd⟩ := hW
  have hA : DataW.TrodAll enc Try.prog W 0 (fun _ => true) true Try.f5.params.toList args.toList ds p := hA0
  rw [Try.params5] at hA hval
  obtain ⟨v0, vs0, d0, ds0, p0, q0, hargs, rfl, rfl, h0, r0⟩ := trodAll_cons hA
  obtain ⟨rfl, rfl, rfl⟩ := trodAll_nil r0
  obtain rfl : args = #[v0] := by cases args; simp_all
  obtain ⟨rfl, rfl⟩ := trodVars_none hV
  obtain ⟨a0, len0, cap0, rfl⟩ := okWide_slice Try.underlying31 (hval 0 31 v0 rfl rfl)
  have k0 := h0
  have lt0 : ∀ x ∈ p0, x.block < W.heap.size := by obtain ⟨m, hm⟩ := k0; exact DataW.trod_lt m _ _ _ hm
  obtain ⟨zs, hr⟩ : ∃ zs, Rd W (.slice a0 len0 cap0) (cellsInt64S zs) := by
    obtain ⟨fuel, hf⟩ := h0
    rcases open_ints Try.underlying31 Try.underlying2 (by kernel_rfl) hf with ⟨hcs, _⟩ | ⟨x, l, c, zs, hcs, _, hl, hm, hz, _, hcell, hwz⟩
    · simp [Value.cells] at hcs
      obtain ⟨rfl, rfl, rfl⟩ := hcs
      exact ⟨[], ⟨none, 0, rfl, Nat.le_refl _, fun h => absurd rfl h⟩⟩
    · simp [Value.cells] at hcs
      obtain ⟨rfl, rfl, rfl⟩ := hcs
      exact arg_rd hl (by simpa using hz) hcell
  clear hA0 hval0
  refine (walk _ zs W hr).mono fun e W' ⟨he, bel⟩ => ?_
  subst he
  exact ⟨_, rfl, _, _, _, [], _, [], hW', trodAll_mk1 (shut_bool Try.underlying4 _), (trodAll_cons_mk (Below.trod laidOut (by kernel_rfl) (of_decide_eq_true (by kernel_rfl)) k0 bel lt0) trodAll_mk0), rfl, bel.frame _, fun h => by cases h⟩

theorem over : Rows.fnExactNumbersRow.holds Try.pinned (OpenSpec.ofChange Rows.fnExactNumbersSpec) :=
  OpenClaim.holds_of_wide 5 Try.f5 rfl rfl rfl rfl rfl rfl rfl ⟨rfl, rfl, rfl, rfl, rfl⟩ rfl rfl rfl rfl rfl (by kernel_rfl) Try.func5 (by kernel_rfl)
    (of_decide_eq_true (by kernel_rfl)) (by unfold Func.isWrapper; first | (rw [if_pos (by decide +kernel)]; kernel_rfl) | (rw [if_neg (by decide +kernel)]; exact ⟨rfl, rfl⟩))
    (fun os started H enc _ => lifted os started H enc)

theorem proved : Rows.FnExactNumbersSaid := over
end Go.Proofs.Ytejaffjmdhnlaag.exNumbers
