/- CONTRACTS: slices.IndexFunc, slices.ContainsFunc of a row of impl.Item by (impl.Item).wrong. (Written by numg.py.) -/
import Derived.Test.YtfoncmeplofedaqGreatDoorBunb
import Derived.Test.YtfoncmeplofedaqGreatDoorIdxL
namespace Go.Proofs.YtfoncmeplofedaqGreatDoor
open Go.RowKit
set_option linter.unusedVariables false
set_option maxHeartbeats 2000000 in
set_option maxRecDepth 100000 in
theorem indexIW_any (va : Value) (l : List It) (w : World) (ha : RdG itf 5 w va l) (hl : l.length ≤ 1048576) :
    Calls Tryz.prog 74 #[va, .func (.func 55) #[] #[]] w fun e w' => e = .returned (.int .i64 (idxP wrongI l 0)) ∧ Below w.heap.size w w' := by
  rcases rdG_cases ha with ⟨h0, ao, cap, rfl⟩ | ⟨hp, b, off, cap, rfl, _, hlt, hc⟩
  · subst h0
    clear ha
    go_enter Tryz.func74, Tryz.ntmps74
    go_wp2
    refine wp_loop_rounds 1 ?_
    rw [rounds_succ]
    go_wp2
    go_ret
    exact ⟨rfl, Below.refl _ _⟩
  have HA : Hid (CellsG itf 5 b off l w) := hc
  obtain ⟨P, hP⟩ : ∃ P : It → Bool, P = wrongI := ⟨_, rfl⟩
  have HP := Lib.hid hP
  rw [← hP]
  have HST : Hid (∀ k, k < l.length → idxP P (l.drop k) k = if P (l.getD k it0) = true then (k : Int) else idxP P (l.drop (k + 1)) (k + 1)) := fun k hk => idxP_step P l it0 k hk
  have HEND : Hid (idxP P (l.drop l.length) l.length = -1) := idxP_end P l
  have H0 : Hid (idxP P (l.drop 0) 0 = idxP P l 0) := rfl
  generalize idxP P l 0 = R at H0 ⊢
  obtain ⟨n, hn⟩ : ∃ n, n = l.length := ⟨_, rfl⟩
  rw [← hn] at hp hl HST HEND ⊢
  have HN : Hid (n = l.length) := hn
  clear hc hn ha hP
  go_enter Tryz.func74, Tryz.ntmps74
  go_wp2
  go_loopw [8] (fun i wr => ∃ k : Nat, k ≤ n ∧ i = .int .i64 k ∧ Hid (Below w.heap.size w wr) ∧ Hid (idxP P (l.drop k) k = R)) (fun i _ => n - (intOf i).toNat)
  case atStart => exact ⟨0, Nat.zero_le _, rfl, Below.refl _ _, H0⟩
  case round =>
    rename World => wr
    obtain ⟨k, hk, rfl, hb, hR⟩ := hrel
    clear H0
    by_cases hltk : k < n
    focus
      have hs1 := hb.out.size
      have hkl : k < l.length := by have := HN.out; omega
      obtain ⟨d0, d1, d2, d3, d4⟩ := it_cells (cellsG_below HA.out hlt hb.out) hkl
      have hst := HST.out k hltk
      rw [hR.out] at hst
      have HS := Lib.hid hst
      obtain ⟨x, hx9⟩ : ∃ x, x = l.getD k it0 := ⟨_, rfl⟩
      rw [← hx9] at d0 d1 d2 d3 d4 HS
      obtain ⟨x1, x2, x3, x4, x5⟩ := x
      simp only at d0 d1 d2 d3 d4
      clear hx9 hkl hst hR
      have e9 : P (x1, x2, x3, x4, x5) = wrongI (x1, x2, x3, x4, x5) := by rw [HP.out]
      have hcall : Calls Tryz.prog 55 #[.agg #[.int .i64 x1, .string x2, .int .i64 x3, .int .i64 x4, .bool x5]] wr fun e w' => e = .returned (.bool (P (x1, x2, x3, x4, x5))) ∧ Below wr.heap.size wr w' := by rw [e9]; exact wrongI_any x1 x2 x3 x4 x5 wr
      clear e9
      cases hw : P (x1, x2, x3, x4, x5) with
      | true =>
        rw [hw] at hcall
        have HR : Hid (R = (k : Int)) := by have h9 := HS.out; rw [if_pos hw] at h9; exact h9
        clear HS hw
        go_wp2_with fail
        refine hcall.mono ?_
        rintro e w2 ⟨rfl, hb2⟩
        have HB2 := Lib.hid (hb.out.trans (hb2.mono hs1))
        clear hcall hb2
        go_wp2
        go_ret
        exact ⟨by rw [HR.out]; rfl, HB2.out⟩
      | false =>
        rw [hw] at hcall
        have HNW : Hid (idxP P (l.drop (k + 1)) (k + 1) = R) := by have h9 := HS.out; rw [if_neg (by rw [hw]; decide)] at h9; exact h9.symm
        clear HS hw
        go_wp2_with fail
        refine hcall.mono ?_
        rintro e w2 ⟨rfl, hb2⟩
        have HB2 := Lib.hid (hb.out.trans (hb2.mono hs1))
        clear hcall hb2
        go_wp2
        go_roundw
        case rel => exact ⟨k + 1, by omega, by go_num, HB2, HNW⟩
        case measure => simp [intOf]; omega
    have HR : Hid (R = -1) := by
      have e : k = n := by omega
      have h9 := hR.out
      rw [e, HEND.out] at h9
      exact h9.symm
    clear hR
    go_wp2
    go_ret
    exact ⟨by rw [HR.out]; rfl, hb.out⟩
theorem containsIW_any (va : Value) (l : List It) (w : World) (ha : RdG itf 5 w va l) (hl : l.length ≤ 1048576) :
    Calls Tryz.prog 54 #[va, .func (.func 55) #[] #[]] w fun e w' => e = .returned (.bool (l.any wrongI)) ∧ Below w.heap.size w w' := by
  have hcall := indexIW_any va l  w ha hl 
  rw [← idxP_any wrongI l 0]
  generalize idxP wrongI l 0 = r at hcall ⊢
  obtain ⟨ao, cap, rfl⟩ := rdG_shape ha
  clear ha
  go_enter Tryz.func54, Tryz.ntmps54
  go_wp2_with fail
  refine hcall.mono ?_
  rintro e w2 ⟨rfl, hb2⟩
  clear hcall
  go_wp2
  go_ret
  exact ⟨rfl, hb2⟩
end Go.Proofs.YtfoncmeplofedaqGreatDoor
