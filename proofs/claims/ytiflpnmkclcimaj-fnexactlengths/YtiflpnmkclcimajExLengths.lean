/- FnExactLengths: at every list impl.Lengths answers as spec.Lengths, writes into no argument, its answer owns its memory, behind another call too. For every list, without a condition. -/
import Derived.Test.YtiflpnmkclcimajLenW
import Derived.Test.YtiflpnmkclcimajIntsI
import Derived.Test.YtiflpnmkclcimajArgs
namespace Go.Proofs.Ytiflpnmkclcimaj.exLengths
open Go.ChangeShapes Go.WideShapes Go.ChangeAt Go.RowKit
set_option linter.unusedVariables false

theorem lengthsT_len (l : List Int) : (lengthsT l).length ≤ 32 := by
  unfold lengthsT
  split
  · rename_i h
    have := (allIn_out h).1.2
    unfold lengthsI
    rw [rowF_len]
    exact this
  · simp

set_option maxHeartbeats 2000000 in
set_option maxRecDepth 100000 in
theorem walk (va : Value) (xs : List Int) (w : World) (ha : Rd w va (cellsInt64S xs)) (hza : ∀ n ∈ xs, (Lit.int .i64 n).wf = true) (hna : xs.length ≤ 9223372036854775807) :
    Calls Try.prog 5 #[va] w fun e w' => e = .returned (.bool true) ∧ Below w.heap.size w w' := by
  have hla : (cellsInt64S xs).length = xs.length := by simp
  clear hza
  by_cases hbig : 1048576 < (xs.length : Int)
  · obtain ⟨ao, cap, rfl, _, _⟩ := ha
    rw [hla]
    go_enter Try.func5, Try.ntmps5
    go_wp2
    go_ret
    exact ⟨rfl, Below.refl _ _⟩
  have hl1 : xs.length ≤ 1048576 := by omega
  obtain ⟨ao, cap, hva, _, _⟩ := id ha
  rw [hla] at hva
  have hL := lengthsT_len xs
  have HSP := fun va w ha => specLengths_any va xs w ha (by omega)
  have HIM := fun va w ha => implLengths_any va xs w ha (by omega)
  generalize lengthsT xs = L at hL HSP HIM
  subst hva
  go_enter Try.func5, Try.ntmps5
  go_wp2_with fail
  refine (toInt64S_any _ xs _ ha hl1).mono ?_
  rintro e w1 ⟨v1, rfl, ho1, hb1⟩
  have s1 := hb1.size
  go_wp2_with fail
  refine (HSP v1 _ (rd_owns ho1)).mono ?_
  rintro e w2 ⟨vs, rfl, hos, hb2⟩
  have s2 := hb2.size
  have hB2 := hb1.trans (hb2.mono s1)
  clear ho1 hb1 hb2
  go_wp2_with fail
  refine (toInt64S_any _ xs _ (rd_below ha hB2) hl1).mono ?_
  rintro e w3 ⟨v3, rfl, ho3, hb3⟩
  have s3 := hb3.size
  have hB3 := hB2.trans (hb3.mono (by omega))
  have hos3 := owns_below hos hb3
  clear hB2 hb3
  go_wp2_with fail
  refine (HIM v3 _ (rd_owns ho3)).mono ?_
  rintro e w4 ⟨vi, rfl, hoi, hb4⟩
  have s4 := hb4.size
  have hB4 := hB3.trans (hb4.mono (by omega))
  have hos4 := owns_below hos3 hb4
  have ho34 := owns_below ho3 hb4
  clear hB3 hb4 hos3
  go_wp2_with fail
  refine (eqInt64S_any vi vs _ _ _ (rd_owns hoi) (rd_owns hos4) (by omega) (by omega)).mono ?_
  rintro e w5 ⟨rfl, hb5⟩
  rw [decide_eq_true rfl]
  have s5 := hb5.size
  have hB5 := hB4.trans (hb5.mono (by omega))
  have hos5 := owns_below hos4 hb5
  have ho35 := owns_below ho34 hb5
  have hoi5 := owns_below hoi hb5
  clear hB4 hb5 hos4 ho34
  go_wp2_with fail
  refine (toInt64S_any _ xs _ (rd_below ha hB5) hl1).mono ?_
  rintro e w6 ⟨v6, rfl, ho6, hb6⟩
  have s6 := hb6.size
  have hB6 := hB5.trans (hb6.mono (by omega))
  have hos6 := owns_below hos5 hb6
  have ho36 := owns_below ho35 hb6
  have hoi6 := owns_below hoi5 hb6
  clear hB5 hb6 hos5 ho35 hoi5
  go_wp2_with fail
  refine (eqInt64S_any v3 v6 _ _ _ (rd_owns ho36) (rd_owns ho6) (by omega) (by omega)).mono ?_
  rintro e w7 ⟨rfl, hb7⟩
  rw [decide_eq_true rfl]
  have s7 := hb7.size
  have hB7 := hB6.trans (hb7.mono (by omega))
  have hos7 := owns_below hos6 hb7
  have ho37 := owns_below ho36 hb7
  have hoi7 := owns_below hoi6 hb7
  clear hB6 hb7 hos6 ho36 hoi6 ho6
  have k3 := fun q (hq : v3.ownBlock = some q) => ho3.lt q hq
  have ks := fun q (hq : vs.ownBlock = some q) => hos.lt q hq
  have ki := fun q (hq : vi.ownBlock = some q) => hoi.lt q hq
  clear ho3 hos hoi
  go_wp2_with fail
  refine (markInt64S_one w2.heap.size v3 _ _ ho37 (by omega)).mono ?_
  rintro e w8 ⟨rfl, _, hg8⟩
  have s8 := hg8.size
  have hos8 := owns_grown hos7 hg8 (fun k hk h => by have h1 := (ks k h).2; have h2 := (k3 k hk).1; omega)
  have hoi8 := owns_grown hoi7 hg8 (fun k hk h => by have h1 := (ki k h).1; have h2 := (k3 k hk).2; omega)
  have hB8 := hB7.grown hg8 (by omega) (fun k hk => by have h2 := (k3 k hk).1; omega)
  clear hB7 hg8 hos7 ho37 hoi7 k3
  have hx0 : decide ((1 : Int) + (xs.length : Int) < 0) = false := decide_eq_false (by omega)
  go_wp2_with fail
  refine (eqInt64S_any vi vs _ _ _ (rd_owns hoi8) (rd_owns hos8) (by omega) (by omega)).mono ?_
  rintro e w9 ⟨rfl, hb9⟩
  rw [decide_eq_true rfl]
  have s9 := hb9.size
  have hB9 := hB8.trans (hb9.mono (by omega))
  have hos9 := owns_below hos8 hb9
  have hoi9 := owns_below hoi8 hb9
  clear hB8 hb9 hos8 hoi8
  go_wp2_with fail
  refine (markInt64S_one w3.heap.size vi _ _ hoi9 (by omega)).mono ?_
  rintro e w10 ⟨rfl, hoi10, hg10⟩
  have s10 := hg10.size
  have hos10 := owns_grown hos9 hg10 (fun k hk h => by have h1 := (ks k h).2; have h2 := (ki k hk).1; omega)
  have hB10 := hB9.grown hg10 (by omega) (fun k hk => by have h2 := (ki k hk).1; omega)
  clear hB9 hg10 hos9 hoi9 ki ks
  go_wp2_with fail
  refine (heldInt64S_one vi _ _ (rd_owns hoi10) (by omega)).mono ?_
  rintro e w11 ⟨rfl, hb11⟩
  have s11 := hb11.size
  have hB11 := hB10.trans (hb11.mono (by omega))
  have hos11 := owns_below hos10 hb11
  have hoi11 := owns_below hoi10 hb11
  clear hB10 hb11 hos10 hoi10
  go_wp2_with fail
  refine (toInt64S_any _ xs _ (rd_below ha hB11) hl1).mono ?_
  rintro e w12 ⟨v12, rfl, ho12, hb12⟩
  have s12 := hb12.size
  have hB12 := hB11.trans (hb12.mono (by omega))
  have hos12 := owns_below hos11 hb12
  have hoi12 := owns_below hoi11 hb12
  clear hB11 hb12 hos11 hoi11
  go_wp2_with fail
  refine (HIM v12 _ (rd_owns ho12)).mono ?_
  rintro e w13 ⟨vh, rfl, hoh, hb13⟩
  have s13 := hb13.size
  have hB13 := hB12.trans (hb13.mono (by omega))
  have hos13 := owns_below hos12 hb13
  have hoi13 := owns_below hoi12 hb13
  clear hB12 hb13 hos12 hoi12 ho12
  go_wp2_with fail
  refine (eqInt64S_any vh vs _ _ _ (rd_owns hoh) (rd_owns hos13) (by omega) (by omega)).mono ?_
  rintro e w14 ⟨rfl, hb14⟩
  rw [decide_eq_true rfl]
  have s14 := hb14.size
  have hB14 := hB13.trans (hb14.mono (by omega))
  have hoi14 := owns_below hoi13 hb14
  clear hB13 hb14 hos13 hoi13 hoh
  go_wp2_with fail
  refine (heldInt64S_one vi _ _ (rd_owns hoi14) (by omega)).mono ?_
  rintro e w15 ⟨rfl, hb15⟩
  have hB15 := hB14.trans (hb15.mono (by omega))
  clear hoi14 hB14 hb15 HSP HIM ha
  go_wp2
  go_ret
  exact ⟨rfl, hB15⟩

set_option maxRecDepth 100000 in
theorem lifted (os : Os) (started : os.Started) (H : Type) (enc : TypeId × Value → H) :
    ReturnsInHanded {} Try.checked os 5 .any (Rows.fnExactLengthsSpec.pre6 enc Try.prog Try.f5 Rows.fnExactLengthsRow.domain false) (Rows.fnExactLengthsSpec.post enc Try.prog Try.f5 false true false false) := by
  refine returnsInHanded_of_change (C := Try.checked) own started (by kernel_rfl) Try.func5
    (ChangeSpec.witness6 (enc := enc) (C := Try.checked) false ⟨#[], #[.slice none 0 0], []⟩ 8 (by kernel_rfl) (by kernel_rfl) (by kernel_rfl) (by kernel_rfl)) ?_
  intro W base args ds gs before hval0 hW hcnd _
  have hval : ∀ (j : Nat) t v, Try.f5.params[j]? = some t → args[j]? = some v → Value.okWide Try.prog W .any base t v := hval0
  have hW' := hW
  obtain ⟨p, q, hA0, hV, rfl, hfz, hnd⟩ := hW
  have hA : DataW.TrodAll enc Try.prog W 0 (fun _ => true) true Try.f5.params.toList args.toList ds p := hA0
  rw [Try.params5] at hA hval
  obtain ⟨v0, vs0, d0, ds0, p0, q0, hargs0, rfl, rfl, h0, r0⟩ := trodAll_cons hA
  obtain ⟨rfl, rfl, rfl⟩ := trodAll_nil r0
  obtain rfl : args = #[v0] := by cases args; simp_all
  obtain ⟨rfl, rfl⟩ := trodVars_none hV
  obtain ⟨a0, len0, cap0, rfl⟩ := okWide_slice Try.underlying28 (hval 0 28 v0 rfl rfl)
  have k0 := h0
  have lt0 : ∀ x ∈ p0, x.block < W.heap.size := by obtain ⟨m, hm⟩ := k0; exact DataW.trod_lt m _ _ _ hm
  obtain ⟨zs0, hr0, hs0⟩ : ∃ zs : List Int, Rd W (.slice a0 len0 cap0) (zs.map (Value.int .i64)) ∧ ((∀ n ∈ zs, (Lit.int .i64 n).wf = true) ∧ zs.length ≤ 9223372036854775807) := by
    obtain ⟨fuel, hf⟩ := h0
    rcases open_ints Try.underlying28 Try.underlying2 (by kernel_rfl) hf with ⟨hcs, _⟩ | ⟨x, l, c, zs, hcs, _, hl, hm, hz, _, hcell, hwz⟩
    · simp [Value.cells] at hcs
      obtain ⟨rfl, rfl, rfl⟩ := hcs
      exact ⟨[], ⟨none, 0, rfl, Nat.le_refl _, fun h => absurd rfl h⟩, (fun x hx => absurd hx List.not_mem_nil), Nat.zero_le _⟩
    · simp [Value.cells] at hcs
      obtain ⟨rfl, rfl, rfl⟩ := hcs
      exact arg_ints .i64 hl hm (by simpa using hz) hcell hwz
  clear hA0 hval0
  refine (walk _ zs0 W hr0 hs0.1 hs0.2).mono fun e W' ⟨he, bel⟩ => ?_
  subst he
  exact ⟨_, rfl, _, _, _, [], _, [], hW', trodAll_mk1 (shut_bool Try.underlying4 _), (trodAll_cons_mk (Below.trod laidOut (by kernel_rfl) (of_decide_eq_true (by kernel_rfl)) k0 bel lt0) trodAll_mk0), rfl, bel.frame _, fun h => by cases h⟩

theorem over : Rows.fnExactLengthsRow.holds Try.pinned (OpenSpec.ofChange Rows.fnExactLengthsSpec) :=
  OpenClaim.holds_of_wide 5 Try.f5 rfl rfl rfl rfl rfl rfl rfl ⟨rfl, rfl, rfl, rfl, rfl⟩ rfl rfl rfl rfl rfl (by kernel_rfl) Try.func5 (by kernel_rfl)
    (of_decide_eq_true (by kernel_rfl)) (by unfold Func.isWrapper; first | (rw [if_pos (by decide +kernel)]; kernel_rfl) | (rw [if_neg (by decide +kernel)]; exact ⟨rfl, rfl⟩))
    (fun os started H enc _ => lifted os started H enc)

theorem proved : Rows.FnExactLengthsSaid := over
end Go.Proofs.Ytiflpnmkclcimaj.exLengths
