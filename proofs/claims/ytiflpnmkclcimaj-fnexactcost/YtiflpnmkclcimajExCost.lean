/- FnExactCost: at every two lists impl.Cost answers as spec.Cost, and writes into no argument. For every two lists, without a condition. -/
import Derived.Test.YtiflpnmkclcimajShortI
import Derived.Test.YtiflpnmkclcimajIntsI
import Derived.Test.YtiflpnmkclcimajArgs
namespace Go.Proofs.Ytiflpnmkclcimaj.exCost
open Go.ChangeShapes Go.WideShapes Go.ChangeAt Go.RowKit
set_option linter.unusedVariables false

set_option maxHeartbeats 1000000 in
set_option maxRecDepth 100000 in
theorem walk (va : Value) (xs : List Int) (vb : Value) (ys : List Int) (w : World) (ha : Rd w va (cellsInt64S xs)) (hza : ∀ n ∈ xs, (Lit.int .i64 n).wf = true) (hna : xs.length ≤ 9223372036854775807)
    (hb : Rd w vb (cellsInt64S ys)) (hzb : ∀ n ∈ ys, (Lit.int .i64 n).wf = true) (hnb : ys.length ≤ 9223372036854775807) :
    Calls Try.prog 6 #[va, vb] w fun e w' => e = .returned (.bool true) ∧ Below w.heap.size w w' := by
  have hla : (cellsInt64S xs).length = xs.length := by simp
  have hlb : (cellsInt64S ys).length = ys.length := by simp
  clear hza hzb
  by_cases hbig : 1048576 < (xs.length : Int)
  · obtain ⟨ao, cap, rfl, _, _⟩ := ha
    rw [hla]
    go_enter Try.func6, Try.ntmps6
    go_wp2
    go_ret
    exact ⟨rfl, Below.refl _ _⟩
  by_cases hbig2 : 1048576 < (ys.length : Int)
  · obtain ⟨ao, cap, rfl, _, _⟩ := ha
    obtain ⟨bo, bcap, rfl, _, _⟩ := hb
    rw [hla, hlb]
    go_enter Try.func6, Try.ntmps6
    go_wp2
    go_ret
    exact ⟨rfl, Below.refl _ _⟩
  have hl1 : xs.length ≤ 1048576 := by omega
  have hl2 : ys.length ≤ 1048576 := by omega
  obtain ⟨ao, cap, hva, _, _⟩ := id ha
  obtain ⟨bo, bcap, hvb, _, _⟩ := id hb
  rw [hla] at hva
  rw [hlb] at hvb
  have hr : (costT xs ys != costT xs ys) = false := by simp
  have HSP := fun va vb w ha hb => specCost_any va vb xs ys w ha hb (by omega) (by omega)
  have HIM := fun va vb w ha hb => implCost_any va vb xs ys w ha hb (by omega) (by omega)
  generalize costT xs ys = z at hr HSP HIM
  subst hva hvb
  go_enter Try.func6, Try.ntmps6
  go_wp2_with fail
  refine (toInt64S_any _ xs _ ha hl1).mono ?_
  rintro e w1 ⟨v1, rfl, ho1, hb1⟩
  have hB1 := hb1
  have ha1 := rd_below ha hb1
  have hbb1 := rd_below hb hb1
  go_wp2_with fail
  refine (toInt64S_any _ ys _ hbb1 hl2).mono ?_
  rintro e w2 ⟨v2, rfl, ho2, hb2⟩
  have hB2 := hB1.trans (hb2.mono hB1.size)
  have ha2 := rd_below ha1 hb2
  have hbb2 := rd_below hbb1 hb2
  have ho12 := owns_below ho1 hb2
  clear ha1 hbb1 hb1 hb2 hB1 ho1 ha hb
  go_wp2_with fail
  refine (HSP v1 v2 _ (rd_owns ho12) (rd_owns ho2)).mono ?_
  rintro e w3 ⟨rfl, d3, hw3⟩
  have hb3 := below_drewN (Below.refl w2.heap.size w2) d3
  rw [← hw3] at hb3
  clear hw3
  have hB3 := hB2.trans (hb3.mono hB2.size)
  have ha3 := rd_below ha2 hb3
  have hbb3 := rd_below hbb2 hb3
  clear ho12 ho2 ha2 hbb2 hb3 hB2
  go_wp2_with fail
  refine (toInt64S_any _ xs _ ha3 hl1).mono ?_
  rintro e w4 ⟨v4, rfl, ho4, hb4⟩
  have hB4 := hB3.trans (hb4.mono hB3.size)
  have ha4 := rd_below ha3 hb4
  have hbb4 := rd_below hbb3 hb4
  clear ha3 hbb3 hb4 hB3
  go_wp2_with fail
  refine (toInt64S_any _ ys _ hbb4 hl2).mono ?_
  rintro e w5 ⟨v5, rfl, ho5, hb5⟩
  have hB5 := hB4.trans (hb5.mono hB4.size)
  have ha5 := rd_below ha4 hb5
  have hbb5 := rd_below hbb4 hb5
  have ho45 := owns_below ho4 hb5
  clear ha4 hbb4 hb5 hB4 ho4
  go_wp2_with fail
  refine (HIM v4 v5 _ (rd_owns ho45) (rd_owns ho5)).mono ?_
  rintro e w6 ⟨rfl, hw6⟩
  replace hw6 := hw6.symm
  subst hw6
  clear HSP HIM
  go_wp2_with fail
  refine (toInt64S_any _ xs _ ha5 hl1).mono ?_
  rintro e w7 ⟨v7, rfl, ho7, hb7⟩
  have hB7 := hB5.trans (hb7.mono hB5.size)
  have hbb7 := rd_below hbb5 hb7
  have ho47 := owns_below ho45 hb7
  have ho57 := owns_below ho5 hb7
  clear ha5 hbb5 hb7 hB5 ho45 ho5
  go_wp2_with fail
  refine (eqInt64S_any v4 v7 _ _ _ (rd_owns ho47) (rd_owns ho7) (by omega) (by omega)).mono ?_
  rintro e w8 ⟨rfl, hb8⟩
  rw [decide_eq_true rfl]
  have hB8 := hB7.trans (hb8.mono hB7.size)
  have hbb8 := rd_below hbb7 hb8
  have ho58 := owns_below ho57 hb8
  clear hbb7 hb8 hB7 ho47 ho57 ho7
  go_wp2_with fail
  refine (toInt64S_any _ ys _ hbb8 hl2).mono ?_
  rintro e w9 ⟨v9, rfl, ho9, hb9⟩
  have hB9 := hB8.trans (hb9.mono hB8.size)
  have ho59 := owns_below ho58 hb9
  clear hbb8 hb9 hB8 ho58
  go_wp2_with fail
  refine (eqInt64S_any v5 v9 _ _ _ (rd_owns ho59) (rd_owns ho9) (by omega) (by omega)).mono ?_
  rintro e w10 ⟨rfl, hb10⟩
  rw [decide_eq_true rfl]
  have hB10 := hB9.trans (hb10.mono hB9.size)
  clear ho59 ho9 hb10 hB9
  go_wp2
  go_ret
  exact ⟨rfl, hB10⟩

set_option maxRecDepth 100000 in
theorem lifted (os : Os) (started : os.Started) (H : Type) (enc : TypeId × Value → H) :
    ReturnsInHanded {} Try.checked os 6 .any (Rows.fnExactCostSpec.pre6 enc Try.prog Try.f6 Rows.fnExactCostRow.domain false) (Rows.fnExactCostSpec.post enc Try.prog Try.f6 false true false false) := by
  refine returnsInHanded_of_change (C := Try.checked) own started (by kernel_rfl) Try.func6
    (ChangeSpec.witness6 (enc := enc) (C := Try.checked) false ⟨#[], #[.slice none 0 0, .slice none 0 0], []⟩ 8 (by kernel_rfl) (by kernel_rfl) (by kernel_rfl) (by kernel_rfl)) ?_
  intro W base args ds gs before hval0 hW hcnd _
  have hval : ∀ (j : Nat) t v, Try.f6.params[j]? = some t → args[j]? = some v → Value.okWide Try.prog W .any base t v := hval0
  have hW' := hW
  obtain ⟨p, q, hA0, hV, rfl, hfz, hnd⟩ := hW
  have hA : DataW.TrodAll enc Try.prog W 0 (fun _ => true) true Try.f6.params.toList args.toList ds p := hA0
  rw [Try.params6] at hA hval
  obtain ⟨v0, vs0, d0, ds0, p0, q0, hargs0, rfl, rfl, h0, r0⟩ := trodAll_cons hA
  obtain ⟨v1, vs1, d1, ds1, p1, q1, hargs1, rfl, rfl, h1, r1⟩ := trodAll_cons r0
  obtain ⟨rfl, rfl, rfl⟩ := trodAll_nil r1
  obtain rfl : args = #[v0, v1] := by cases args; simp_all
  obtain ⟨rfl, rfl⟩ := trodVars_none hV
  obtain ⟨a0, len0, cap0, rfl⟩ := okWide_slice Try.underlying28 (hval 0 28 v0 rfl rfl)
  have k0 := h0
  have lt0 : ∀ x ∈ p0, x.block < W.heap.size := by obtain ⟨m, hm⟩ := k0; exact DataW.trod_lt m _ _ _ hm
  obtain ⟨zs0, hr0, hs0⟩ : ∃ zs : List Int, Rd W (.slice a0 len0 cap0) (zs.map (Value.int .i64)) ∧ ((∀ n ∈ zs, (Lit.int .i64 n).wf = true) ∧ zs.length ≤ 9223372036854775807) := by
    obtain ⟨fuel, hf⟩ := h0
    rcases open_ints Try.underlying28 Try.underlying2 (by kernel_rfl) hf with ⟨hcs, _⟩ | ⟨x, l, c, zs, hcs, _, hl, hm, hz, _, hcell, hwz⟩
    · simp [Value.cells] at hcs
      obtain ⟨rfl, rfl, rfl⟩ := hcs
      exact ⟨[], ⟨none, 0, rfl, Nat.le_refl _, fun h => absurd rfl h⟩, (fun x hx => absurd hx List.not_mem_nil), Nat.zero_le _⟩
    · simp [Value.cells] at hcs
      obtain ⟨rfl, rfl, rfl⟩ := hcs
      exact arg_ints .i64 hl hm (by simpa using hz) hcell hwz
  obtain ⟨a1, len1, cap1, rfl⟩ := okWide_slice Try.underlying28 (hval 1 28 v1 rfl rfl)
  have k1 := h1
  have lt1 : ∀ x ∈ p1, x.block < W.heap.size := by obtain ⟨m, hm⟩ := k1; exact DataW.trod_lt m _ _ _ hm
  obtain ⟨zs1, hr1, hs1⟩ : ∃ zs : List Int, Rd W (.slice a1 len1 cap1) (zs.map (Value.int .i64)) ∧ ((∀ n ∈ zs, (Lit.int .i64 n).wf = true) ∧ zs.length ≤ 9223372036854775807) := by
    obtain ⟨fuel, hf⟩ := h1
    rcases open_ints Try.underlying28 Try.underlying2 (by kernel_rfl) hf with ⟨hcs, _⟩ | ⟨x, l, c, zs, hcs, _, hl, hm, hz, _, hcell, hwz⟩
    · simp [Value.cells] at hcs
      obtain ⟨rfl, rfl, rfl⟩ := hcs
      exact ⟨[], ⟨none, 0, rfl, Nat.le_refl _, fun h => absurd rfl h⟩, (fun x hx => absurd hx List.not_mem_nil), Nat.zero_le _⟩
    · simp [Value.cells] at hcs
      obtain ⟨rfl, rfl, rfl⟩ := hcs
      exact arg_ints .i64 hl hm (by simpa using hz) hcell hwz
  clear hA0 hval0
  refine (walk _ zs0 _ zs1 W hr0 hs0.1 hs0.2 hr1 hs1.1 hs1.2).mono fun e W' ⟨he, bel⟩ => ?_
  subst he
  exact ⟨_, rfl, _, _, _, [], _, [], hW', trodAll_mk1 (shut_bool Try.underlying4 _), (trodAll_cons_mk (Below.trod laidOut (by kernel_rfl) (of_decide_eq_true (by kernel_rfl)) k0 bel lt0) (trodAll_cons_mk (Below.trod laidOut (by kernel_rfl) (of_decide_eq_true (by kernel_rfl)) k1 bel lt1) trodAll_mk0)), rfl, bel.frame _, fun h => by cases h⟩

theorem over : Rows.fnExactCostRow.holds Try.pinned (OpenSpec.ofChange Rows.fnExactCostSpec) :=
  OpenClaim.holds_of_wide 6 Try.f6 rfl rfl rfl rfl rfl rfl rfl ⟨rfl, rfl, rfl, rfl, rfl⟩ rfl rfl rfl rfl rfl (by kernel_rfl) Try.func6 (by kernel_rfl)
    (of_decide_eq_true (by kernel_rfl)) (by unfold Func.isWrapper; first | (rw [if_pos (by decide +kernel)]; kernel_rfl) | (rw [if_neg (by decide +kernel)]; exact ⟨rfl, rfl⟩))
    (fun os started H enc _ => lifted os started H enc)

theorem proved : Rows.FnExactCostSaid := over
end Go.Proofs.Ytiflpnmkclcimaj.exCost
