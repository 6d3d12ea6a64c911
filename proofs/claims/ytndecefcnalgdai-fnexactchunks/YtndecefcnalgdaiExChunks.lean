/- FnExactChunks: at every text and rule impl.Chunks answers as spec.Chunks, its answer owns its memory, behind another call too. For every text and rule, without a condition. -/
import Derived.Test.YtndecefcnalgdaiChunks
import Derived.Test.YtndecefcnalgdaiArgRule
import Derived.Test.YtndecefcnalgdaiMarks
namespace Go.Proofs.Ytndecefcnalgdai.exChunks
open Go.ChangeShapes Go.WideShapes Go.ChangeAt Go.RowKit
open Go.ChangeMaps (open_string shut_string)
set_option linter.unusedVariables false

theorem chunksT_len (s : ByteArray) (W P L M : Int) : (chunksT s W P L M).length ≤ 20000 := by
  unfold chunksT
  split
  · rename_i h
    obtain ⟨W, L, M, rfl, rfl, rfl, hok⟩ := ruleB_ok h.1
    have := cuts_count (okn_next (W := W) (P := P) (L := L) (M := M) (by omega) hok.2.2.2.1) (byts s) 0 (Nat.zero_le _)
    rw [byts_len] at this
    have e := chunksI_len s W P L M
    unfold cutsN at e
    show (chunksI s W P L M).length ≤ 20000
    omega
  · simp

set_option maxHeartbeats 1000000 in
set_option maxRecDepth 100000 in
theorem walk (s : ByteArray) (W P L M : Int) (w : World) (hm : s.size ≤ maxLen) :
    Calls Try.prog 8 #[.string s, ruleV W P L M] w fun e w' => e = .returned (.bool true) ∧ Below w.heap.size w w' := by
  have hB := (Below.refl w.heap.size w).alloc (Nat.le_refl _) (.cells #[.int .i64 W, .int .i64 P, .int .i64 L, .int .i64 M] 30)
  have hbx := heap_alloc_new w (.cells #[.int .i64 W, .int .i64 P, .int .i64 L, .int .i64 M] 30)
  have hlt : w.heap.size < (w.alloc (.cells #[.int .i64 W, .int .i64 P, .int .i64 L, .int .i64 M] 30)).heap.size := by simp
  by_cases hbig : 1048576 < (s.size : Int)
  · go_enter Try.func8, Try.ntmps8
    go_wp2
    go_ret
    exact ⟨rfl, hB⟩
  · have hs : s.size ≤ 9223372036854775807 := by omega
    have hl := chunksT_len s W P L M
    have HSP := fun w => specChunks_any s W P L M w hs
    have HIM := fun w => implChunks_any s W P L M w hs
    generalize chunksT s W P L M = CL at hl HSP HIM
    go_enter Try.func8, Try.ntmps8
    go_wp2_with fail
    refine (toRule_any _ _ _ _ _).mono ?_
    rintro e w1 ⟨rfl, hb1⟩
    have hB1 := hB.trans (hb1.mono (Nat.le_of_lt hlt))
    have hbx1 := (hb1.block w.heap.size hlt).trans hbx
    have hlt1 : w.heap.size < w1.heap.size := Nat.lt_of_lt_of_le hlt hb1.size
    go_wp2_with fail
    refine (HSP _).mono ?_
    rintro e w2 ⟨v1, rfl, ho1, hb2⟩
    have hB2 := hB1.trans (hb2.mono hB1.size)
    have hbx2 := (hb2.block w.heap.size hlt1).trans hbx1
    have hlt2 : w.heap.size < w2.heap.size := Nat.lt_of_lt_of_le hlt1 hb2.size
    obtain ⟨d0, d1, d2, d3⟩ := rule_cells rfl hbx2
    clear hB hb1 hB1 hb2 hbx hbx1
    go_wp2_with fail
    refine (toRule_any _ _ _ _ _).mono ?_
    rintro e w3 ⟨rfl, hb3⟩
    have hB3 := hB2.trans (hb3.mono hB2.size)
    have ho13 := owns_below ho1 hb3
    have hbx3 := (hb3.block w.heap.size hlt2).trans hbx2
    have hlt3 : w.heap.size < w3.heap.size := Nat.lt_of_lt_of_le hlt2 hb3.size
    clear d0 d1 d2 d3 hb3 hB2 hbx2 ho1
    go_wp2_with fail
    refine (HIM _).mono ?_
    rintro e w4 ⟨v2, rfl, ho2, hb4⟩
    have hB4 := hB3.trans (hb4.mono hB3.size)
    have ho14 := owns_below ho13 hb4
    have hbx4 := (hb4.block w.heap.size hlt3).trans hbx3
    have hlt4 : w.heap.size < w4.heap.size := Nat.lt_of_lt_of_le hlt3 hb4.size
    have hs34 := hb4.size
    clear hB3 hbx3 hb4
    go_wp2_with fail
    refine (eqS_same v2 v1 _ _ (rd_owns ho2) (rd_owns ho14) (by omega)).mono ?_
    rintro e w5 ⟨rfl, hb5⟩
    have hB5 := hB4.trans (hb5.mono hB4.size)
    have ho15 := owns_below ho14 hb5
    have ho25 := owns_below ho2 hb5
    have hbx5 := (hb5.block w.heap.size hlt4).trans hbx4
    have hlt5 : w.heap.size < w5.heap.size := Nat.lt_of_lt_of_le hlt4 hb5.size
    have hs35 := Nat.le_trans hs34 hb5.size
    have hv1 := fun k hk => (ho13.lt k hk).2
    have hv2 := fun k hk => (ho2.lt k hk).1
    clear hB4 ho14 hbx4 hb5 ho2 ho13
    go_wp2_with fail
    refine (markS_one w3.heap.size v2 _ _ ho25 (by omega)).mono ?_
    rintro e w6 ⟨rfl, ho26, hg6⟩
    have ho16 := owns_grown ho15 hg6 (fun k hk h => by have h1 := hv1 k h; have h2 := hv2 k hk; omega)
    have hbx6 := (hg6.block w.heap.size hlt5 (fun h => by have h2 := hv2 _ h.symm; omega)).trans hbx5
    have hB6 : Below w.heap.size w w6 := hB5.grown hg6 (Nat.le_of_lt hlt5) (fun k hk => by have := hv2 k hk; omega)
    have hlt6 : w.heap.size < w6.heap.size := Nat.lt_of_lt_of_le hlt5 hg6.size
    clear ho25 ho15 hbx5 hB5 hg6 hv1 hv2
    go_wp2_with fail
    refine (heldS_one v2 _ _ (rd_owns ho26) (by omega)).mono ?_
    rintro e w7 ⟨rfl, hb7⟩
    have ho17 := owns_below ho16 hb7
    have ho27 := owns_below ho26 hb7
    have hbx7 := (hb7.block w.heap.size hlt6).trans hbx6
    have hB7 := hB6.trans (hb7.mono hB6.size)
    have hlt7 : w.heap.size < w7.heap.size := Nat.lt_of_lt_of_le hlt6 hb7.size
    obtain ⟨d0, d1, d2, d3⟩ := rule_cells rfl hbx7
    clear ho16 ho26 hbx6 hB6 hb7
    go_wp2_with fail
    refine (toRule_any _ _ _ _ _).mono ?_
    rintro e w8 ⟨rfl, hb8⟩
    have ho18 := owns_below ho17 hb8
    have ho28 := owns_below ho27 hb8
    have hB8 := hB7.trans (hb8.mono hB7.size)
    clear d0 d1 d2 d3 hbx7 ho17 ho27 hB7 hb8
    go_wp2_with fail
    refine (HIM _).mono ?_
    rintro e w9 ⟨v3, rfl, ho3, hb9⟩
    have ho19 := owns_below ho18 hb9
    have ho29 := owns_below ho28 hb9
    have hB9 := hB8.trans (hb9.mono hB8.size)
    clear ho18 ho28 hB8 hb9
    go_wp2_with fail
    refine (eqS_same v3 v1 _ _ (rd_owns ho3) (rd_owns ho19) (by omega)).mono ?_
    rintro e w10 ⟨rfl, hb10⟩
    have ho210 := owns_below ho29 hb10
    have hB10 := hB9.trans (hb10.mono hB9.size)
    clear ho19 ho29 ho3 hB9 hb10
    go_wp2_with fail
    refine (heldS_one v2 _ _ (rd_owns ho210) (by omega)).mono ?_
    rintro e w11 ⟨rfl, hb11⟩
    have hB11 := hB10.trans (hb11.mono hB10.size)
    clear ho210 hB10 hb11
    go_wp2
    go_ret
    exact ⟨rfl, hB11⟩

set_option maxRecDepth 100000 in
theorem lifted (os : Os) (started : os.Started) (H : Type) (enc : TypeId × Value → H) :
    ReturnsInHanded {} Try.checked os 8 .any (Rows.fnExactChunksSpec.pre6 enc Try.prog Try.f8 Rows.fnExactChunksRow.domain false) (Rows.fnExactChunksSpec.post enc Try.prog Try.f8 false true false false) := by
  refine returnsInHanded_of_change (C := Try.checked) own started (by kernel_rfl) Try.func8
    (ChangeSpec.witness6 (enc := enc) (C := Try.checked) false ⟨#[], #[.string ⟨#[]⟩, ruleV 0 0 0 0], []⟩ 8 (by kernel_rfl) (by kernel_rfl) (by kernel_rfl) (by kernel_rfl)) ?_
  intro W base args ds gs before hval0 hW hcnd _
  have hval : ∀ (j : Nat) t v, Try.f8.params[j]? = some t → args[j]? = some v → Value.okWide Try.prog W .any base t v := hval0
  have hW' := hW
  obtain ⟨p, q, hA0, hV, rfl, hfz, hnd⟩ := hW
  have hA : DataW.TrodAll enc Try.prog W 0 (fun _ => true) true Try.f8.params.toList args.toList ds p := hA0
  rw [Try.params8] at hA hval
  obtain ⟨v0, vs0, d0, ds0, p0, q0, hargs0, rfl, rfl, h0, r0⟩ := trodAll_cons hA
  obtain ⟨v1, vs1, d1, ds1, p1, q1, hargs1, rfl, rfl, h1, r1⟩ := trodAll_cons r0
  obtain ⟨rfl, rfl, rfl⟩ := trodAll_nil r1
  obtain rfl : args = #[v0, v1] := by cases args; simp_all
  obtain ⟨rfl, rfl⟩ := trodVars_none hV
  obtain ⟨s0, rfl, rfl, rfl, hs0⟩ := open_string Try.underlying9 (hval 0 9 v0 rfl rfl) h0
  obtain ⟨x1, y1, z1, u1, rfl, rfl, rfl, wx1, wy1, wz1, wu1⟩ := open_rule (hval 1 30 v1 rfl rfl) h1
  clear hA0 hval0
  refine (walk s0 x1 y1 z1 u1 W hs0).mono fun e W' ⟨he, bel⟩ => ?_
  subst he
  exact ⟨_, rfl, _, _, _, [], _, [], hW', trodAll_mk1 (shut_bool Try.underlying4 _), (trodAll_cons_mk (shut_string Try.underlying9 hs0) (trodAll_cons_mk (shut_rule wx1 wy1 wz1 wu1) trodAll_mk0)), rfl, bel.frame _, fun h => by cases h⟩

theorem over : Rows.fnExactChunksRow.holds Try.pinned (OpenSpec.ofChange Rows.fnExactChunksSpec) :=
  OpenClaim.holds_of_wide 8 Try.f8 rfl rfl rfl rfl rfl rfl rfl ⟨rfl, rfl, rfl, rfl, rfl⟩ rfl rfl rfl rfl rfl (by kernel_rfl) Try.func8 (by kernel_rfl)
    (of_decide_eq_true (by kernel_rfl)) (by unfold Func.isWrapper; first | (rw [if_pos (by decide +kernel)]; kernel_rfl) | (rw [if_neg (by decide +kernel)]; exact ⟨rfl, rfl⟩))
    (fun os started H enc _ => lifted os started H enc)

theorem proved : Rows.FnExactChunksSaid := over
end Go.Proofs.Ytndecefcnalgdai.exChunks
