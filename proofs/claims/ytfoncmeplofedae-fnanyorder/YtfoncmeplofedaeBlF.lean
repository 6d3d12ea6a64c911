/- CONTRACTS: slices.BinarySearchFunc over a row of blobs that rises, the program's place. -/
import Derived.Test.YtfoncmeplofedaeBlJ
import Derived.Deep.LoopGhost
namespace Go.Proofs.Ytfoncmeplofedae
open Go.RowKit
set_option linter.unusedVariables false
/-- where a number is, or would be -/
def Plc (l : List Bl) (d : Int) (k : Nat) (fd : Bool) : Prop := k ≤ l.length ∧ (∀ j, j < k → (l.getD j bl0).1 < d) ∧ (∀ j, k ≤ j → j < l.length → d ≤ (l.getD j bl0).1) ∧ fd = (decide (k < l.length) && decide ((l.getD k bl0).1 = d))
theorem rise_at {l : List Bl} (hr : l.Pairwise (fun p q => p.1 < q.1)) {a b : Nat} (hab : a ≤ b) (hb : b < l.length) : (l.getD a bl0).1 ≤ (l.getD b bl0).1 := by
  rcases Nat.lt_or_ge a b with h | h
  · have := List.pairwise_iff_getElem.1 hr a b (by omega) hb h
    rw [getD_at hb, getD_at (show a < l.length by omega)]
    omega
  · obtain rfl : a = b := by omega
    exact Int.le_refl _
theorem plc_yes {l : List Bl} {d : Int} {k : Nat} (h : Plc l d k true) : k < l.length ∧ (l.getD k bl0).1 = d ∧ findB l d = some (l.getD k bl0) := by
  obtain ⟨_, h1, h2, h3⟩ := h
  have h3 := h3.symm
  rw [Bool.and_eq_true, decide_eq_true_eq, decide_eq_true_eq] at h3
  exact ⟨h3.1, h3.2, (idxB_is h3.1 h3.2 (fun j hj => by have := h1 j hj; omega)).2⟩
theorem plc_no {l : List Bl} {d : Int} {k : Nat} (hr : l.Pairwise (fun p q => p.1 < q.1)) (h : Plc l d k false) : findB l d = none := by
  obtain ⟨h0, h1, h2, h3⟩ := h
  refine (idxB_no fun j hj => ?_).2
  rcases Nat.lt_or_ge j k with g | g
  · have := h1 j g; omega
  · intro e
    have hk : k < l.length := by omega
    have h4 := h2 k (Nat.le_refl _) hk
    have h5 := rise_at hr g hj
    have h6 : (l.getD k bl0).1 = d := by omega
    rw [decide_eq_true hk, decide_eq_true h6] at h3
    cases h3
set_option maxHeartbeats 2000000 in
set_option maxRecDepth 100000 in
theorem search_any (va : Value) (l : List Bl) (d : Int) (w : World) (ha : RdB w va l) (hl : l.length ≤ 1048576) (hr : l.Pairwise (fun p q => p.1 < q.1)) :
    Calls Try.prog 80 #[va, .int .i64 d, .func (.func 81) #[] #[]] w fun e w' => ∃ (k : Nat) (fd : Bool), e = .returned (.tuple #[.int .i64 (k : Int), .bool fd]) ∧ Plc l d k fd ∧ Below w.heap.size w w' := by
  rcases rdB_cases ha with ⟨h0, ao, cap, rfl⟩ | ⟨hp, b, off, cap, rfl, _, hlt, hc⟩
  · subst h0
    go_enter Try.func80, Try.ntmps80
    go_wp2
    refine wp_loop_rounds 1 ?_
    rw [rounds_succ]
    go_wp2
    go_ret2
    exact ⟨0, false, rfl, ⟨Nat.le_refl _, fun j h => absurd h (Nat.not_lt_zero _), fun j _ h => absurd h (Nat.not_lt_zero _), rfl⟩, Below.refl _ _⟩
  have HA : Hid (CellsB b off l w) := hc
  have HR : Hid (∀ a b, a ≤ b → b < l.length → (l.getD a bl0).1 ≤ (l.getD b bl0).1) := fun a b h1 h2 => rise_at hr h1 h2
  obtain ⟨n, hn⟩ : ∃ n, n = l.length := ⟨_, rfl⟩
  rw [← hn] at hp hl HR ⊢
  have HN : Hid (n = l.length) := hn
  clear hc ha hn hr
  go_enter Try.func80, Try.ntmps80
  go_wp2
  go_loopg [9, 10] n (fun kx s9 s10 wr => ∃ lo hi : Nat, s9 = .int .i64 lo ∧ s10 = .int .i64 hi ∧ lo ≤ hi ∧ hi ≤ n ∧ hi - lo ≤ kx ∧ Hid (Below w.heap.size w wr) ∧ Hid ((∀ j, j < lo → (l.getD j bl0).1 < d) ∧ (∀ j, hi ≤ j → j < n → d ≤ (l.getD j bl0).1)))
  case atStart => exact ⟨0, n, rfl, rfl, Nat.zero_le _, Nat.le_refl _, by omega, Below.refl _ _, ⟨fun j h => absurd h (Nat.not_lt_zero _), fun j h1 h2 => by omega⟩⟩
  case round =>
    obtain ⟨lo, hi, rfl, rfl, hlh, hin, hg, hb, I⟩ := hrel
    by_cases hltk : lo < hi
    · obtain ⟨m, hm⟩ : ∃ m, m = (lo + hi) / 2 := ⟨_, rfl⟩
      have hs1 := hb.out.size
      have hml : m < l.length := by have := HN.out; omega
      obtain ⟨d0, d1⟩ := cellsB_below HA.out hlt hb.out m hml
      have hnew : Hid ((cmpI (l.getD m bl0).1 d < 0 → (∀ j, j < m + 1 → (l.getD j bl0).1 < d)) ∧ (¬ cmpI (l.getD m bl0).1 d < 0 → (∀ j, m ≤ j → j < n → d ≤ (l.getD j bl0).1))) := ⟨fun h j hj => by
        have h1 := HR.out j m (by omega) (by omega)
        have h2 := cmpI_neg.1 h
        omega, fun h j hj hjn => by
        have h1 := HR.out m j hj hjn
        have h2 : ¬ (l.getD m bl0).1 < d := fun g => h (cmpI_neg.2 g)
        omega⟩
      obtain ⟨x, hx⟩ : ∃ x, x = l.getD m bl0 := ⟨_, rfl⟩
      rw [← hx] at d0 d1 hnew
      obtain ⟨x1, x2⟩ := x
      simp only at d0 d1 hnew
      clear hx hml
      have hcall := fun W => place1_any x1 d x2 W
      subst hm
      by_cases hneg : cmpI x1 d < 0
      · go_wp2_with fail
        refine (hcall _).mono ?_
        rintro e w2 ⟨rfl, hb2⟩
        have HB2 := Lib.hid (hb.out.trans (hb2.mono hs1))
        have I2 := Lib.hid (And.intro (hnew.out.1 hneg) I.out.2)
        clear hcall hb2 hnew
        go_wp2
        go_roundg (hi - ((lo + hi) / 2 + 1))
        case measure => omega
        case rel => exact ⟨(lo + hi) / 2 + 1, hi, by rw [show ((lo : Int) + (hi : Int)) / 2 + 1 = (((lo + hi) / 2 + 1 : Nat) : Int) by omega], rfl, by omega, hin, Nat.le_refl _, HB2, I2⟩
      · go_wp2_with fail
        refine (hcall _).mono ?_
        rintro e w2 ⟨rfl, hb2⟩
        have HB2 := Lib.hid (hb.out.trans (hb2.mono hs1))
        have I2 := Lib.hid (And.intro I.out.1 (hnew.out.2 hneg))
        clear hcall hb2 hnew
        go_wp2
        go_roundg ((lo + hi) / 2 - lo)
        case measure => omega
        case rel => exact ⟨lo, (lo + hi) / 2, rfl, by rw [show ((lo : Int) + (hi : Int)) / 2 = (((lo + hi) / 2 : Nat) : Int) by omega], by omega, by omega, Nat.le_refl _, HB2, I2⟩
    · obtain rfl : hi = lo := by omega
      have hs1 := hb.out.size
      by_cases hln : hi < n
      · have hml : hi < l.length := by have := HN.out; omega
        obtain ⟨d0, d1⟩ := cellsB_below HA.out hlt hb.out hi hml
        have hfin : Hid (∀ fd, fd = decide ((l.getD hi bl0).1 = d) → Plc l d hi fd) := fun fd hfd => by
          have hx := HN.out
          exact ⟨by omega, I.out.1, fun j h1 h2 => I.out.2 j h1 (by omega), by rw [hfd, decide_eq_true hml, Bool.true_and]⟩
        obtain ⟨x, hx⟩ : ∃ x, x = l.getD hi bl0 := ⟨_, rfl⟩
        rw [← hx] at d0 d1 hfin
        obtain ⟨x1, x2⟩ := x
        simp only at d0 d1 hfin
        clear hx hml
        have hcall := fun W => place1_any x1 d x2 W
        obtain ⟨c, hc⟩ : ∃ c, c = cmpI x1 d := ⟨_, rfl⟩
        have hcz : (c = 0) = (x1 = d) := by rw [hc]; exact propext cmpI_zero
        rw [← hc] at hcall
        clear hc
        go_wp2_with fail
        refine (hcall _).mono ?_
        rintro e w2 ⟨rfl, hb2⟩
        have HB2 := Lib.hid (hb.out.trans (hb2.mono hs1))
        clear hcall hb2
        go_wp2
        go_ret2
        exact ⟨hi, decide (c = 0), rfl, hfin.out _ (by rw [decide_eq_decide]; rw [hcz]), HB2.out⟩
      · have hfin : Hid (Plc l d hi false) := by
          have hx := HN.out
          exact ⟨by omega, I.out.1, fun j h1 h2 => by omega, by rw [decide_eq_false (by omega), Bool.false_and]⟩
        go_wp2
        go_ret2
        exact ⟨hi, false, rfl, hfin.out, hb.out⟩
theorem place_any (va : Value) (l : List Bl) (d : Int) (w : World) (ha : RdB w va l) (hl : l.length ≤ 1048576) (hr : l.Pairwise (fun p q => p.1 < q.1)) :
    Calls Try.prog 68 #[va, .int .i64 d] w fun e w' => ∃ (k : Nat) (fd : Bool), e = .returned (.tuple #[.int .i64 (k : Int), .bool fd]) ∧ Plc l d k fd ∧ Below w.heap.size w w' := by
  have hcall := search_any va l d w ha hl hr
  obtain ⟨ao, cap, rfl⟩ := rdB_shape ha
  clear ha
  go_enter Try.func68, Try.ntmps68
  go_wp2_with fail
  refine hcall.mono ?_
  rintro e w2 ⟨k, fd, rfl, h, hb2⟩
  clear hcall
  go_wp2
  go_ret2
  exact ⟨k, fd, rfl, h, hb2⟩
end Go.Proofs.Ytfoncmeplofedae
