/- FnExactDelta: at every argument impl.Delta answers as spec.Delta, its answer owns its memory, behind another call too. For every one, without a condition. (Written by lawgen9.py.) -/
import Derived.Test.YtdiammehnakchamDelI
import Derived.Test.YtdiammehnakchamDelS
import Derived.Test.YtdiammehnakchamBitE
import Derived.Test.YtdiammehnakchamBitM
import Derived.Test.YtdiammehnakchamBitO
import Derived.Test.YtdiammehnakchamArgs
namespace Go.Proofs.Ytdiammehnakcham.exDelta
open Go.ChangeShapes Go.WideShapes Go.ChangeAt Go.RowKit
open Go.ChangeMaps (open_string shut_string)
set_option linter.unusedVariables false
theorem dG_len {old fresh : ByteArray} {n : Nat} (hn : 1 ≤ n) : ∀ (m fr p : Nat) (out : List Bl), fresh.size - p ≤ m → p ≤ fresh.size → out.length ≤ 2 * p → (dG old fresh n fr p out).length ≤ 2 * fresh.size + 2 := by
  have wl : ∀ (out : List Bl) (t : ByteArray), (withT out t).length ≤ out.length + 1 := fun out t => by
    unfold withT
    split
    · omega
    · rw [List.length_append, List.length_singleton]; omega
  intro m
  induction m with
  | zero =>
    intro fr p out hm hp h
    rw [dG_end (by omega)]
    have := wl out (fresh.extract fr fresh.size)
    omega
  | succ m ih =>
    intro fr p out hm hp h
    by_cases h1 : p + n ≤ fresh.size
    · cases hx : foundT old fresh n p with
      | some k =>
        rw [dG_hit hn hx]
        have := wl out (fresh.extract fr p)
        exact ih _ _ _ (by omega) h1 (by rw [List.length_append, List.length_singleton]; omega)
      | none =>
        rw [dG_miss hn h1 hx]
        exact ih _ _ _ (by omega) (by omega) (by omega)
    · rw [dG_end h1]
      have := wl out (fresh.extract fr fresh.size)
      omega
theorem ans_len (old fresh : ByteArray) (n : Int) : (deltaT old fresh n).length ≤ 40002 := by
  unfold deltaT
  split
  · rename_i h
    have := dG_len (old := old) (fresh := fresh) (n := n.toNat) (by have := h.1.1; omega) fresh.size 0 0 [] (by omega) (Nat.zero_le _) (Nat.zero_le _)
    omega
  · exact Nat.zero_le _

set_option maxHeartbeats 2000000 in
set_option maxRecDepth 100000 in
theorem walk (s0 : ByteArray) (s1 : ByteArray) (n2 : Int) (w : World) (hm0 : s0.size ≤ maxLen) (hm1 : s1.size ≤ maxLen) (hlo2 : -9223372036854775808 ≤ n2) (hhi2 : n2 ≤ 9223372036854775807) :
    Calls Try.prog 8 #[.string s0, .string s1, .int .i64 n2] w fun e w' => e = .returned (.bool true) ∧ Below w.heap.size w w' := by
  by_cases hbig_s0 : 1048576 < (s0.size : Int)
  · go_enter Try.func8, Try.ntmps8
    go_wp2
    go_ret
    exact ⟨rfl, Below.refl _ _⟩
  by_cases hbig_s1 : 1048576 < (s1.size : Int)
  · go_enter Try.func8, Try.ntmps8
    go_wp2
    go_ret
    exact ⟨rfl, Below.refl _ _⟩
  focus
    have HSP := fun W => specDelta_any s0 s1 n2 W
    have HIM := fun W => implDelta_any s0 s1 n2 W
    have hlen := ans_len s0 s1 n2
    generalize (deltaT s0 s1 n2) = R at HSP HIM hlen
    have HMB := fun (base : Nat) (v : Value) (ys : List Bl) (W : World) (h : W.ownsRow base 81 2 v ys.length (blC ys)) (hy : ys.length ≤ 1048576) => markBitS_one base v ys W h hy
    have HHD := fun (v : Value) (W : World) (h : RdB W v (marksBi 1 R.length)) => heldBitS_one v R.length W h (by omega)
    obtain ⟨K, hK⟩ : ∃ K : Nat, K = 1 + 2 * R.length := ⟨_, rfl⟩
    have HK := Lib.hid hK
    rw [← hK] at HHD
    have hK0 : ¬ ((K : Nat) : Int) < 0 := by omega
    clear hK
    have hB0 := Below.refl w.heap.size w
    go_enter Try.func8, Try.ntmps8
    go_wp2_with fail
    refine (HSP _).mono ?_
    rintro e w1 ⟨vw, rfl, hoW1, hb1⟩
    have hB1 := hB0.trans (hb1.mono hB0.size)
    have hs1 := hb1.size
    have hvW : ∀ k, vw.ownBlock = some k → w.heap.size ≤ k ∧ k < w1.heap.size := fun k h => hoW1.lt k h
    clear hb1 hB0
    go_wp2_with fail
    refine (HIM _).mono ?_
    rintro e w2 ⟨vg, rfl, hoG2, hb2⟩
    have hB2 := hB1.trans (hb2.mono hB1.size)
    have hs2 := hb2.size
    have hoW2 := owns_below hoW1 hb2
    have hvG : ∀ k, vg.ownBlock = some k → w1.heap.size ≤ k ∧ k < w2.heap.size := fun k h => hoG2.lt k h
    clear hoW1 hb2 hB1
    go_wp2_with fail
    refine (eqBitS_same vg vw R _ (rdB_owns hoG2) (rdB_owns hoW2) (by omega)).mono ?_
    rintro e w3 ⟨rfl, hb3⟩
    have hB3 := hB2.trans (hb3.mono hB2.size)
    have hs3 := hb3.size
    have hoW3 := owns_below hoW2 hb3
    have hoG3 := owns_below hoG2 hb3
    clear hoW2 hoG2 hb3 hB2
    have hmg := HMB _ _ _ _ hoG3 (by omega)
    rw [← HK.out] at hmg
    go_wp2_with fail
    refine (hmg).mono ?_
    rintro e w4 ⟨rfl, hoM4, hg4⟩
    have hs4 := hg4.size
    have hB4 : Below w.heap.size w w4 := hB3.grown hg4 hB3.size (fun k hk => by have h2 := hvG k hk; omega)
    have hoW4 := owns_grown hoW3 hg4 (fun k hk h => by have h1 := hvW k h; have h2 := hvG k hk; omega)
    have hrG4 := rdB_own_marks hoM4
    clear hoM4
    clear hoW3 hg4 hB3 hoG3
    clear hmg
    go_wp2_with fail
    refine (HHD _ _ hrG4).mono ?_
    rintro e w5 ⟨rfl, hb5⟩
    have hB5 := hB4.trans (hb5.mono hB4.size)
    have hs5 := hb5.size
    have hoW5 := owns_below hoW4 hb5
    have hrG5 := rdB_below hrG4 hb5
    clear hoW4 hrG4 hb5 hB4
    go_wp2_with fail
    refine (HIM _).mono ?_
    rintro e w6 ⟨vh, rfl, hoH6, hb6⟩
    have hB6 := hB5.trans (hb6.mono hB5.size)
    have hs6 := hb6.size
    have hoW6 := owns_below hoW5 hb6
    have hrG6 := rdB_below hrG5 hb6
    have hvH : ∀ k, vh.ownBlock = some k → w5.heap.size ≤ k ∧ k < w6.heap.size := fun k h => hoH6.lt k h
    clear hoW5 hrG5 hb6 hB5
    go_wp2_with fail
    refine (eqBitS_same vh vw R _ (rdB_owns hoH6) (rdB_owns hoW6) (by omega)).mono ?_
    rintro e w7 ⟨rfl, hb7⟩
    have hB7 := hB6.trans (hb7.mono hB6.size)
    have hs7 := hb7.size
    have hoW7 := owns_below hoW6 hb7
    have hoH7 := owns_below hoH6 hb7
    have hrG7 := rdB_below hrG6 hb7
    clear hoW6 hoH6 hrG6 hb7 hB6
    go_wp2_with fail
    refine (HHD _ _ hrG7).mono ?_
    rintro e w8 ⟨rfl, hb8⟩
    have hB8 := hB7.trans (hb8.mono hB7.size)
    have hs8 := hb8.size
    have hoW8 := owns_below hoW7 hb8
    have hoH8 := owns_below hoH7 hb8
    have hrG8 := rdB_below hrG7 hb8
    clear hoW7 hoH7 hrG7 hb8 hB7
    clear hrG8 hoW8 hoH8
    go_wp2
    go_ret
    exact ⟨rfl, hB8⟩
set_option maxRecDepth 100000 in
theorem lifted (os : Os) (started : os.Started) (H : Type) (enc : TypeId × Value → H) :
    ReturnsInHanded {} Try.checked os 8 .any (Rows.fnExactDeltaSpec.pre6 enc Try.prog Try.f8 Rows.fnExactDeltaRow.domain false) (Rows.fnExactDeltaSpec.post enc Try.prog Try.f8 false true false false) := by
  refine returnsInHanded_of_change (C := Try.checked) own started (by kernel_rfl) Try.func8
    (ChangeSpec.witness6 (enc := enc) (C := Try.checked) false ⟨#[], #[.string ⟨#[]⟩, .string ⟨#[]⟩, .int .i64 0], []⟩ 8 (by kernel_rfl) (by kernel_rfl) (by kernel_rfl) (by kernel_rfl)) ?_
  intro W base args ds gs before hval0 hW hcnd _
  have hval : ∀ (j : Nat) t v, Try.f8.params[j]? = some t → args[j]? = some v → Value.okWide Try.prog W .any base t v := hval0
  have hW' := hW
  obtain ⟨p, q, hA0, hV, rfl, hfz, hnd⟩ := hW
  have hA : DataW.TrodAll enc Try.prog W 0 (fun _ => true) true Try.f8.params.toList args.toList ds p := hA0
  rw [Try.params8] at hA hval
  obtain ⟨v0, vs0, d0, ds0, p0, q0, hargs0, rfl, rfl, h0, r0⟩ := trodAll_cons hA
  obtain ⟨v1, vs1, d1, ds1, p1, q1, hargs1, rfl, rfl, h1, r1⟩ := trodAll_cons r0
  obtain ⟨v2, vs2, d2, ds2, p2, q2, hargs2, rfl, rfl, h2, r2⟩ := trodAll_cons r1
  obtain ⟨rfl, rfl, rfl⟩ := trodAll_nil r2
  obtain rfl : args = #[v0, v1, v2] := by cases args; simp_all
  obtain ⟨rfl, rfl⟩ := trodVars_none hV
  obtain ⟨s0, rfl, rfl, rfl, hs0⟩ := open_string Try.underlying9 (hval 0 9 v0 rfl rfl) h0
  obtain ⟨s1, rfl, rfl, rfl, hs1⟩ := open_string Try.underlying9 (hval 1 9 v1 rfl rfl) h1
  obtain ⟨a2, rfl, rfl, rfl, w2⟩ := open_int Try.underlying2 (hval 2 2 v2 rfl rfl) h2
  clear hA0 hval0
  refine (walk s0 s1 a2 W hs0 hs1 (wf_i64 w2).1 (wf_i64 w2).2).mono fun e W' ⟨he, bel⟩ => ?_
  subst he
  exact ⟨_, rfl, _, _, _, [], _, [], hW', trodAll_mk1 (shut_bool Try.underlying4 _), (trodAll_cons_mk (shut_string Try.underlying9 hs0) (trodAll_cons_mk (shut_string Try.underlying9 hs1) (trodAll_cons_mk (shut_int Try.underlying2 w2) trodAll_mk0))), rfl, bel.frame _, fun h => by cases h⟩

theorem over : Rows.fnExactDeltaRow.holds Try.pinned (OpenSpec.ofChange Rows.fnExactDeltaSpec) :=
  OpenClaim.holds_of_wide 8 Try.f8 rfl rfl rfl rfl rfl rfl rfl ⟨rfl, rfl, rfl, rfl, rfl⟩ rfl rfl rfl rfl rfl (by kernel_rfl) Try.func8 (by kernel_rfl)
    (of_decide_eq_true (by kernel_rfl)) (by unfold Func.isWrapper; first | (rw [if_pos (by decide +kernel)]; kernel_rfl) | (rw [if_neg (by decide +kernel)]; exact ⟨rfl, rfl⟩))
    (fun os started H enc _ => lifted os started H enc)

theorem proved : Rows.FnExactDeltaSaid := over
end Go.Proofs.Ytdiammehnakcham.exDelta
