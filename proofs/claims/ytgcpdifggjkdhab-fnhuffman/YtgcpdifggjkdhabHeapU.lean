/- CONTRACTS: container/heap's up. -/
import Derived.Test.YtgcpdifggjkdhabHeapP
import Derived.Test.YtgcpdifggjkdhabHeapM
namespace Go.Proofs.Ytgcpdifggjkdhab
open Go.RowKit
set_option linter.unusedVariables false
/-- the heap as an interface value -/
abbrev hpV (Bg : Nat) : Value := .iface 111 (.pointer (some ⟨Bg, 0, none⟩))
structure HGo (Bg n : Nat) (hs : List It) (w : World) : Prop where
  at_ : HAt Bg hs w
  len : hs.length = n
theorem lessH (Bg n : Nat) (hs : List It) (w : World) (h : HGo Bg n hs w) (hn : n ≤ 1000) (i j : Nat) (hi : i < n) (hj : j < n) :
    ∃ v, (method 261 111 (.pointer (some ⟨Bg, 0, none⟩)) "Less").run Try.prog w = .ok (144, v) w ∧ Calls Try.prog 144 #[v, .int .i64 (i : Int), .int .i64 (j : Int)] w fun e w' => e = .returned (.bool (ltI (atI hs i) (atI hs j))) ∧ HGo Bg n hs w' ∧ Fr2 Bg w w' := by
  obtain ⟨ha, rfl⟩ := h
  obtain ⟨g, cap, hg, hb, hr, _⟩ := ha.row (by omega)
  refine ⟨_, meth_less Bg w _ _ _ hb, (less5_any (Bg + 1) g cap hs w hr i j _ _ (atI_some hi) (atI_some hj) hn).mono ?_⟩
  rintro e w' ⟨rfl, hb2⟩
  exact ⟨rfl, ⟨ha.below hb2, rfl⟩, fr2_below hb2 ha.lt⟩
theorem swapH (Bg n : Nat) (hs : List It) (w : World) (h : HGo Bg n hs w) (hn : n ≤ 1000) (i j : Nat) (hi : i < n) (hj : j < n) :
    ∃ v, (method 261 111 (.pointer (some ⟨Bg, 0, none⟩)) "Swap").run Try.prog w = .ok (145, v) w ∧ Calls Try.prog 145 #[v, .int .i64 (i : Int), .int .i64 (j : Int)] w fun e w' => e = .returned (.tuple #[]) ∧ HGo Bg n (swI hs i j) w' ∧ Fr2 Bg w w' := by
  obtain ⟨ha, rfl⟩ := h
  obtain ⟨g, cap, hg, hb, hr, ht⟩ := ha.row (by omega)
  refine ⟨_, meth_swap Bg w _ _ _ hb, (swap5_any (Bg + 1) g cap hs w hr i j _ _ (atI_some hi) (atI_some hj) hn).mono ?_⟩
  rintro e w' ⟨rfl, hr2, hg2⟩
  obtain ⟨a, b⟩ := HAt.swap hb hg ht (swI_len hs i j) hr2 hg2
  exact ⟨rfl, ⟨a, swI_len hs i j⟩, b⟩
set_option maxHeartbeats 2000000 in
set_option maxRecDepth 100000 in
theorem up5_any (Bg n : Nat) (hs : List It) (w : World) (h : HGo Bg n hs w) (hn : n ≤ 1000) (j : Nat) (hj : j < n) (hu : UpI hs j n) :
    Calls Try.prog 113 #[hpV Bg, .int .i64 (j : Int)] w fun e w' => e = .returned (.tuple #[]) ∧ ∃ hs', HGo Bg n hs' w' ∧ HpI hs' n ∧ hs'.Perm hs ∧ Fr Bg w w' := by
  have HU := Lib.hid hu
  clear hu
  go_enter Try.func113, Try.ntmps113
  go_wp2
  go_loopw [1] (fun p wr => ∃ (k : Nat) (hs' : List It), p = .int .i64 k ∧ k < n ∧ HGo Bg n hs' wr ∧ Hid (UpI hs' k n ∧ hs'.Perm hs) ∧ Fr Bg w wr) (fun p _ => (intOf p).toNat)
  case atStart => exact ⟨j, hs, rfl, hj, h, ⟨HU.out, List.Perm.refl _⟩, Fr.refl _ _⟩
  case round =>
    obtain ⟨k, hs', rfl, hk, h1, hu, hf⟩ := hrel
    clear h HU
    by_cases hk0 : k = 0
    · subst hk0
      go_wp2
      go_end0
      exact ⟨rfl, hs', h1, hu.out.1.done0, hu.out.2, hf⟩
    · obtain ⟨p, hp⟩ : ∃ p, p = (k - 1) / 2 := ⟨_, rfl⟩
      have hpk : p < k := by omega
      have hdiv : Int.tdiv ((k : Int) - 1) 2 = (p : Int) := by rw [Int.tdiv_eq_ediv_of_nonneg (by omega)]; omega
      have hne : ((p : Int) == (k : Int)) = false := by simp; omega
      obtain ⟨vl, hml, hcl⟩ := lessH Bg n hs' wr h1 hn k p hk (by omega)
      have HP := Lib.hid hp
      clear hp
      by_cases hlt : ltI (atI hs' k) (atI hs' p) = true
      · rw [hlt] at hcl
        have hst : Hid (UpI (swI hs' p k) p n ∧ (swI hs' p k).Perm hs) := by
          have h2 := ltI_true.1 hlt
          rw [HP.out] at h2 ⊢
          exact ⟨hu.out.1.step (by omega) hk (by rw [h1.len]; exact Nat.le_refl _) h2, (swI_perm (by rw [h1.len]; omega) (by rw [h1.len]; omega)).trans hu.out.2⟩
        clear hlt
        go_wp2_with fail
        refine hcl.mono ?_
        rintro e w2 ⟨rfl, h2, hf2⟩
        obtain ⟨vs, hms, hcs⟩ := swapH Bg n hs' w2 h2 hn p k (by omega) hk
        clear hml hcl
        go_wp2_with fail
        refine hcs.mono ?_
        rintro e w3 ⟨rfl, h3, hf3⟩
        clear hms hcs
        go_wp2
        go_roundw
        case rel => exact ⟨p, _, rfl, by omega, h3, hst, (hf.trans (hf2.fr h1.at_)).trans (hf3.fr h2.at_)⟩
        case measure => simp [intOf]; omega
      · have hlf : ltI (atI hs' k) (atI hs' p) = false := by simpa using hlt
        rw [hlf] at hcl
        have hst : Hid (HpI hs' n) := hu.out.1.done (fun h2 => by
          rw [← HP.out] at h2
          exact hlt (ltI_true.2 h2))
        clear hlt hlf
        go_wp2_with fail
        refine hcl.mono ?_
        rintro e w2 ⟨rfl, h2, hf2⟩
        clear hml hcl
        go_wp2
        go_end0
        exact ⟨rfl, hs', h2, hst.out, hu.out.2, hf.trans (hf2.fr h1.at_)⟩
end Go.Proofs.Ytgcpdifggjkdhab
