/- FnExactCoded: at every text and list of codes impl.Coded answers as spec.Coded, and writes into no argument. For every text and list, without a condition. -/
import Derived.Test.YtiflpnmkclcimakCodedS
import Derived.Test.YtiflpnmkclcimakCodedI
import Derived.Test.YtiflpnmkclcimakStrs
import Derived.Test.YtiflpnmkclcimakArgs
namespace Go.Proofs.Ytiflpnmkclcimak.exCoded
open Go.ChangeShapes Go.WideShapes Go.ChangeAt Go.RowKit
open Go.ChangeMaps (open_string shut_string)
set_option linter.unusedVariables false

set_option maxHeartbeats 1000000 in
set_option maxRecDepth 100000 in
theorem walk (s : ByteArray) (va : Value) (xs : List ByteArray) (w : World) (hm : s.size ≤ maxLen) (ha : Rd w va (cellsS xs)) (hs : ∀ s ∈ xs, s.size ≤ 9223372036854775807) (hn : xs.length ≤ 9223372036854775807) :
    Calls Try.prog 3 #[.string s, va] w fun e w' => e = .returned (.bool true) ∧ Below w.heap.size w w' := by
  have hm2 : s.size ≤ 9223372036854775807 := by unfold maxLen at hm; omega
  by_cases hbig : 1048576 < (s.size : Int)
  · clear ha hs hn
    go_enter Try.func3, Try.ntmps3
    go_wp2
    go_ret
    exact ⟨rfl, Below.refl _ _⟩
  have hss : s.size ≤ 1048576 := by omega
  have hsz := szS_any va xs 1048576 w ha hn hs (by omega) (by omega)
  have HS : Hid (0 ≤ szS xs 1048576 → (xs.length : Int) ≤ 1048576 ∧ ∀ s ∈ xs, (s.size : Int) ≤ 1048576) := szS_nonneg
  obtain ⟨z, hz⟩ : ∃ z, z = szS xs 1048576 := ⟨_, rfl⟩
  rw [← hz] at hsz HS
  clear hz hs hn
  by_cases hneg : z < 0
  · go_enter Try.func3, Try.ntmps3
    go_wp2_with fail
    refine hsz.mono ?_
    rintro e w1 ⟨rfl, hb1⟩
    clear hsz
    go_wp2
    go_ret
    exact ⟨rfl, hb1⟩
  · have hl : xs.length ≤ 1048576 := by have := (HS.out (by omega)).1; omega
    have hsz1 : ∀ s ∈ xs, s.size ≤ 1099511627776 := fun s hs => by have := (HS.out (by omega)).2 s hs; omega
    have HSP := fun va w ha => specCoded_any s va xs w (by omega) ha (by omega) hsz1
    have HIM := fun va w ha => implCoded_any s va xs w (by omega) ha (by omega) hsz1
    obtain ⟨t, b, ht⟩ : ∃ t b, optV (codedT s xs) = .tuple #[.string t, .bool b] := ⟨_, _, rfl⟩
    rw [ht] at HSP HIM
    have hbb : (b != b) = false := by simp
    clear ht hsz1
    go_enter Try.func3, Try.ntmps3
    go_wp2_with fail
    refine hsz.mono ?_
    rintro e w0 ⟨rfl, hb0⟩
    clear hsz
    have s0 := hb0.size
    have ha0 := rd_below ha hb0
    go_wp2_with fail
    refine (toS_any _ xs _ ha0 hl).mono ?_
    rintro e w1 ⟨v1, rfl, ho1, hb1⟩
    go_wp2_with fail
    refine (HSP v1 _ (rd_owns ho1)).mono ?_
    rintro e w2 ⟨rfl, hb2⟩
    have s1 := hb1.size
    have s2 := hb2.size
    have ha2 := rd_below' (rd_below ha0 hb1) hb2 (Nat.le_refl _)
    go_wp2_with fail
    refine (toS_any _ xs _ ha2 hl).mono ?_
    rintro e w3 ⟨v3, rfl, ho3, hb3⟩
    have s3 := hb3.size
    go_wp2_with fail
    refine (HIM v3 _ (rd_owns ho3)).mono ?_
    rintro e w4 ⟨rfl, hb4⟩
    have s4 := hb4.size
    have ho4 := owns_below ho3 hb4
    have ha4 := rd_below (rd_below ha2 hb3) hb4
    clear HSP HIM
    go_wp2_with fail
    refine (toS_any _ xs _ ha4 hl).mono ?_
    rintro e w5 ⟨v5, rfl, ho5, hb5⟩
    have s5 := hb5.size
    have ho45 := owns_below ho4 hb5
    go_wp2_with fail
    refine (eqS_same v3 v5 xs _ (rd_owns ho45) (rd_owns ho5) hl).mono ?_
    rintro e w6 ⟨rfl, hb6⟩
    have hfin : Below w.heap.size w w6 := hb0.trans ((hb1.mono s0).trans ((hb2.mono (by omega)).trans ((hb3.mono (by omega)).trans ((hb4.mono (by omega)).trans ((hb5.mono (by omega)).trans (hb6.mono (by omega)))))))
    clear ho1 ho3 ho4 ho5 ho45 ha0 ha2 ha4 hb0 hb1 hb2 hb3 hb4 hb5 hb6
    go_wp2
    go_ret
    exact ⟨rfl, hfin⟩

set_option maxRecDepth 100000 in
theorem lifted (os : Os) (started : os.Started) (H : Type) (enc : TypeId × Value → H) :
    ReturnsInHanded {} Try.checked os 3 .any (Rows.fnExactCodedSpec.pre6 enc Try.prog Try.f3 Rows.fnExactCodedRow.domain false) (Rows.fnExactCodedSpec.post enc Try.prog Try.f3 false true false false) := by
  refine returnsInHanded_of_change (C := Try.checked) own started (by kernel_rfl) Try.func3
    (ChangeSpec.witness6 (enc := enc) (C := Try.checked) false ⟨#[], #[.string ⟨#[]⟩, .slice none 0 0], []⟩ 8 (by kernel_rfl) (by kernel_rfl) (by kernel_rfl) (by kernel_rfl)) ?_
  intro W base args ds gs before hval0 hW hcnd _
  have hval : ∀ (j : Nat) t v, Try.f3.params[j]? = some t → args[j]? = some v → Value.okWide Try.prog W .any base t v := hval0
  have hW' := hW
  obtain ⟨p, q, hA0, hV, rfl, hfz, hnd⟩ := hW
  have hA : DataW.TrodAll enc Try.prog W 0 (fun _ => true) true Try.f3.params.toList args.toList ds p := hA0
  rw [Try.params3] at hA hval
  obtain ⟨v0, vs0, d0, ds0, p0, q0, hargs0, rfl, rfl, h0, r0⟩ := trodAll_cons hA
  obtain ⟨v1, vs1, d1, ds1, p1, q1, hargs1, rfl, rfl, h1, r1⟩ := trodAll_cons r0
  obtain ⟨rfl, rfl, rfl⟩ := trodAll_nil r1
  obtain rfl : args = #[v0, v1] := by cases args; simp_all
  obtain ⟨rfl, rfl⟩ := trodVars_none hV
  obtain ⟨s0, rfl, rfl, rfl, hs0⟩ := open_string Try.underlying9 (hval 0 9 v0 rfl rfl) h0
  obtain ⟨a1, len1, cap1, rfl⟩ := okWide_slice Try.underlying22 (hval 1 22 v1 rfl rfl)
  have k1 := h1
  have lt1 : ∀ x ∈ p1, x.block < W.heap.size := by obtain ⟨m, hm⟩ := k1; exact DataW.trod_lt m _ _ _ hm
  obtain ⟨zs1, hr1, hs1⟩ : ∃ zs, Rd W (.slice a1 len1 cap1) (cellsS zs) ∧ ((∀ s ∈ zs, s.size ≤ 9223372036854775807) ∧ zs.length ≤ 9223372036854775807) := by
    obtain ⟨fuel, hf⟩ := h1
    rcases open_strings Try.underlying22 Try.underlying9 (by kernel_rfl) hf with ⟨hcs, _⟩ | ⟨x, l, c, zs, hcs, _, hl, hm, hz, _, hcell, hwz⟩
    · simp [Value.cells] at hcs
      obtain ⟨rfl, rfl, rfl⟩ := hcs
      exact ⟨[], ⟨none, 0, rfl, Nat.le_refl _, fun h => absurd rfl h⟩, (fun x hx => absurd hx List.not_mem_nil), Nat.zero_le _⟩
    · simp [Value.cells] at hcs
      obtain ⟨rfl, rfl, rfl⟩ := hcs
      exact arg_strs hl hm (by simpa using hz) hcell hwz
  clear hA0 hval0
  refine (walk s0 _ zs1 W hs0 hr1 hs1.1 hs1.2).mono fun e W' ⟨he, bel⟩ => ?_
  subst he
  exact ⟨_, rfl, _, _, _, [], _, [], hW', trodAll_mk1 (shut_bool Try.underlying4 _), (trodAll_cons_mk (shut_string Try.underlying9 hs0) (trodAll_cons_mk (Below.trod laidOut (by kernel_rfl) (of_decide_eq_true (by kernel_rfl)) k1 bel lt1) trodAll_mk0)), rfl, bel.frame _, fun h => by cases h⟩

theorem over : Rows.fnExactCodedRow.holds Try.pinned (OpenSpec.ofChange Rows.fnExactCodedSpec) :=
  OpenClaim.holds_of_wide 3 Try.f3 rfl rfl rfl rfl rfl rfl rfl ⟨rfl, rfl, rfl, rfl, rfl⟩ rfl rfl rfl rfl rfl (by kernel_rfl) Try.func3 (by kernel_rfl)
    (of_decide_eq_true (by kernel_rfl)) (by unfold Func.isWrapper; first | (rw [if_pos (by decide +kernel)]; kernel_rfl) | (rw [if_neg (by decide +kernel)]; exact ⟨rfl, rfl⟩))
    (fun os started H enc _ => lifted os started H enc)

theorem proved : Rows.FnExactCodedSaid := over
end Go.Proofs.Ytiflpnmkclcimak.exCoded
