/- CONTRACTS: the program's rises, IndexFunc, ContainsFunc, StoreOk. -/
import Derived.Test.YtfoncmeplofedaeBlI
namespace Go.Proofs.Ytfoncmeplofedae
open Go.RowKit
set_option linter.unusedVariables false
/-- a row of blobs at a block, cell by cell -/
def CellsB (b off : Nat) (l : List Bl) (w : World) : Prop := ∀ j, j < l.length → w.cell? ⟨b, off + j * 2, none⟩ = some (.int .i64 (l.getD j bl0).1) ∧ w.cell? ⟨b, off + j * 2 + 1, none⟩ = some (.string (l.getD j bl0).2)
theorem cellsB_below {b off : Nat} {l : List Bl} {w w' : World} (h : CellsB b off l w) (hlt : b < w.heap.size) (hb : Below w.heap.size w w') : CellsB b off l w' :=
  fun j hj => ⟨(hb.cell (p := ⟨b, off + j * 2, none⟩) hlt).trans (h j hj).1, (hb.cell (p := ⟨b, off + j * 2 + 1, none⟩) hlt).trans (h j hj).2⟩
def riseB (l : List Bl) : Bool := (List.range l.length).all fun i => decide (i = 0) || decide ((l.getD (i - 1) bl0).1 < (l.getD i bl0).1)
theorem riseB_no {l : List Bl} {i : Nat} (hi : i < l.length) (h0 : 0 < i) (h : ¬ (l.getD (i - 1) bl0).1 < (l.getD i bl0).1) : riseB l = false := by
  cases hs : riseB l with
  | false => rfl
  | true =>
    unfold riseB at hs
    rw [List.all_eq_true] at hs
    have h2 := hs i (List.mem_range.2 hi)
    rw [Bool.or_eq_true, decide_eq_true_eq, decide_eq_true_eq] at h2
    rcases h2 with h2 | h2
    · omega
    · exact absurd h2 h
theorem riseB_yes {l : List Bl} (h : ∀ i, i < l.length → 0 < i → (l.getD (i - 1) bl0).1 < (l.getD i bl0).1) : riseB l = true := by
  unfold riseB
  rw [List.all_eq_true]
  intro i hi
  have hi := List.mem_range.1 hi
  rw [Bool.or_eq_true, decide_eq_true_eq, decide_eq_true_eq]
  by_cases h0 : i = 0
  · exact Or.inl h0
  · exact Or.inr (h i hi (by omega))
theorem anyB_yes {l : List Bl} {i : Nat} (hi : i < l.length) (h : wrongB (l.getD i bl0) = true) : l.any wrongB = true := by
  rw [List.any_eq_true]
  rw [getD_at hi] at h
  exact ⟨_, List.getElem_mem hi, h⟩
theorem anyB_no {l : List Bl} (h : ∀ i, i < l.length → wrongB (l.getD i bl0) = false) : l.any wrongB = false := by
  rw [List.any_eq_false]
  intro p hp
  obtain ⟨i, hi, rfl⟩ := List.getElem_of_mem hp
  have := h i hi
  rw [getD_at hi] at this
  simp [this]
theorem storeB_parts {l : List Bl} (h : l.length ≤ 300) : storeB l = (riseB l && !(l.any wrongB)) := by
  by_cases hr : riseB l = true
  · by_cases ha : l.any wrongB = true
    · rw [hr, ha]
      obtain ⟨p, hp, hw⟩ := List.any_eq_true.1 ha
      cases hs : storeB l with
      | false => rfl
      | true =>
        obtain ⟨_, h2, _⟩ := storeB_iff.1 hs
        obtain ⟨h3, h4⟩ := h2 p hp
        unfold wrongB at hw
        rw [Bool.or_eq_true] at hw
        rcases hw with hw | hw
        · have := of_decide_eq_true hw; omega
        · simp [h4] at hw
    · have ha := Bool.not_eq_true _ ▸ ha
      rw [hr, ha]
      refine storeB_iff.2 ⟨h, fun p hp => ?_, rise_of fun i h0 hi => ?_⟩
      · have := List.any_eq_false.1 ha p hp
        unfold wrongB at this
        simp only [Bool.not_eq_true, Bool.or_eq_false_iff, decide_eq_false_iff_not, Bool.not_eq_false', decide_eq_true_eq] at this
        exact ⟨by omega, this.2.symm⟩
      · unfold riseB at hr
        rw [List.all_eq_true] at hr
        have h2 := hr i (List.mem_range.2 hi)
        rw [Bool.or_eq_true, decide_eq_true_eq, decide_eq_true_eq] at h2
        rcases h2 with h2 | h2
        · omega
        · exact h2
  · have hr := Bool.not_eq_true _ ▸ hr
    rw [hr, Bool.false_and]
    cases hs : storeB l with
    | false => rfl
    | true =>
      obtain ⟨_, _, h3⟩ := storeB_iff.1 hs
      rw [← hr]
      symm
      refine riseB_yes fun i hi h0 => ?_
      have := List.pairwise_iff_getElem.1 h3 (i - 1) i (by omega) hi (by omega)
      rw [getD_at hi, getD_at (show i - 1 < l.length by omega)]
      exact this
set_option maxHeartbeats 2000000 in
set_option maxRecDepth 100000 in
theorem rises_any (va : Value) (l : List Bl) (w : World) (ha : RdB w va l) (hl : l.length ≤ 1048576) :
    Calls Try.prog 51 #[va] w fun e w' => e = .returned (.bool (riseB l)) ∧ Below w.heap.size w w' := by
  have HNO : Hid (∀ i, i < l.length → 0 < i → ¬ (l.getD (i - 1) bl0).1 < (l.getD i bl0).1 → riseB l = false) := fun i hi h0 h => riseB_no hi h0 h
  have HYES : Hid ((∀ i, i < l.length → 0 < i → (l.getD (i - 1) bl0).1 < (l.getD i bl0).1) → riseB l = true) := fun h => riseB_yes h
  rcases rdB_cases ha with ⟨h0, ao, cap, rfl⟩ | ⟨hp, b, off, cap, rfl, _, hlt, hc⟩
  · subst h0
    have e : riseB [] = true := rfl
    rw [e]
    go_enter Try.func51, Try.ntmps51
    go_wp2
    refine wp_loop_rounds 1 ?_
    rw [rounds_succ]
    go_wp2
    go_ret
    exact ⟨rfl, Below.refl _ _⟩
  have HA : Hid (CellsB b off l w) := hc
  generalize riseB l = r at HNO HYES ⊢
  obtain ⟨n, hn⟩ : ∃ n, n = l.length := ⟨_, rfl⟩
  rw [← hn] at hp hl HNO HYES ⊢
  have HN : Hid (n = l.length) := hn
  clear hc ha hn
  have mn := fun z W => meth_number z W
  go_enter Try.func51, Try.ntmps51
  go_wp2
  go_loopw [3] (fun i wr => ∃ k : Nat, 1 ≤ k ∧ k ≤ n + 1 ∧ i = .int .i64 k ∧ Hid (Below w.heap.size w wr) ∧ Hid (∀ i, i < k → i < n → 0 < i → (l.getD (i - 1) bl0).1 < (l.getD i bl0).1)) (fun i _ => n + 1 - (intOf i).toNat)
  case atStart => exact ⟨1, Nat.le_refl _, by omega, rfl, Below.refl _ _, fun i h1 h2 h3 => by omega⟩
  case round =>
    rename World => wr
    obtain ⟨k, hk1, hk, rfl, hb, hok⟩ := hrel
    by_cases hltk : k < n
    focus
      obtain ⟨j, hj⟩ : ∃ j : Nat, (k : Int) - 1 = (j : Int) := ⟨k - 1, by omega⟩
      have hjk : k - 1 = j := by omega
      have hjn : j < n := by omega
      have hs1 := hb.out.size
      have HCB : Hid (∀ w', Below wr.heap.size wr w' → (w'.cell? ⟨b, off + k * 2, none⟩ = some (.int .i64 (l.getD k bl0).1) ∧ w'.cell? ⟨b, off + k * 2 + 1, none⟩ = some (.string (l.getD k bl0).2)) ∧ (w'.cell? ⟨b, off + j * 2, none⟩ = some (.int .i64 (l.getD j bl0).1) ∧ w'.cell? ⟨b, off + j * 2 + 1, none⟩ = some (.string (l.getD j bl0).2))) := fun w' hw' => by
        have h1 := cellsB_below HA.out hlt (hb.out.trans (hw'.mono hs1))
        have hx := HN.out
        exact ⟨h1 k (by omega), h1 j (by omega)⟩
      have HNk := Lib.hid (HNO.out k hltk (by omega))
      rw [hjk] at HNk
      have hnew : Hid ((l.getD j bl0).1 < (l.getD k bl0).1 → ∀ i, i < k + 1 → i < n → 0 < i → (l.getD (i - 1) bl0).1 < (l.getD i bl0).1) := fun h i h1 h2 h3 => by
        rcases Nat.lt_or_ge i k with g | g
        · exact hok.out i g h2 h3
        · obtain rfl : i = k := by omega
          rw [hjk]; exact h
      obtain ⟨x, hx⟩ : ∃ x, x = l.getD k bl0 := ⟨_, rfl⟩
      obtain ⟨y, hy⟩ : ∃ y, y = l.getD j bl0 := ⟨_, rfl⟩
      rw [← hx, ← hy] at HCB HNk hnew
      obtain ⟨x1, x2⟩ := x
      obtain ⟨y1, y2⟩ := y
      simp only at HCB HNk hnew
      clear hx hy hok hjk
      have hjI : IntKind.i64.wrap ((k : Int) - 1) = (j : Int) := by rw [hj]; exact IntWalk.i64_in _ ⟨by omega, by omega⟩
      have hjw : IntKind.i64.wrap (j : Int) = (j : Int) := IntWalk.i64_in _ ⟨by omega, by omega⟩
      have hjnI : (j : Int) < (n : Int) := by omega
      clear hj
      have HB0 : Hid (Below wr.heap.size wr wr.drew) := (Below.refl _ _).drew
      have k0 := HCB.out _ HB0.out
      by_cases hle : x1 ≤ y1
      focus
        have HR := Lib.hid (HNk.out (by omega))
        clear HNk hnew
        have g3 : decide (x1 ≤ y1) = true := decide_eq_true hle
        go_wp2
        go_region_held (fun w' : World => (w'.cell? ⟨b, off + k * 2, none⟩ = some (.int .i64 x1) ∧ w'.cell? ⟨b, off + k * 2 + 1, none⟩ = some (.string x2)) ∧ (w'.cell? ⟨b, off + j * 2, none⟩ = some (.int .i64 y1) ∧ w'.cell? ⟨b, off + j * 2 + 1, none⟩ = some (.string y2)))
          (first | exact k0 | exact k1 | exact k2)
          (first
          | (go_at_call 109; refine (blNumber_any x1 x2 _).mono ?_; rintro e w1 ⟨rfl, hb1⟩; have HB1 : Hid (Below wr.heap.size wr w1) := HB0.out.trans (hb1.mono HB0.out.size); have k1 := HCB.out _ HB1.out; clear hb1)
          | (go_at_call 109; refine (blNumber_any y1 y2 _).mono ?_; rintro e w2 ⟨rfl, hb2⟩; have HB2 : Hid (Below wr.heap.size wr w2) := HB1.out.trans (hb2.mono HB1.out.size); have k2 := HCB.out _ HB2.out; clear hb2))
        go_wp2
        go_ret
        exact ⟨ret_boolS HR.out.symm, hb.out.trans (HB2.out.mono hs1)⟩
      have HNW := Lib.hid (hnew.out (by omega))
      clear HNk hnew
      have g3 : decide (x1 ≤ y1) = false := decide_eq_false hle
      go_wp2
      go_region_held (fun w' : World => (w'.cell? ⟨b, off + k * 2, none⟩ = some (.int .i64 x1) ∧ w'.cell? ⟨b, off + k * 2 + 1, none⟩ = some (.string x2)) ∧ (w'.cell? ⟨b, off + j * 2, none⟩ = some (.int .i64 y1) ∧ w'.cell? ⟨b, off + j * 2 + 1, none⟩ = some (.string y2)))
        (first | exact k0 | exact k1 | exact k2)
        (first
        | (go_at_call 109; refine (blNumber_any x1 x2 _).mono ?_; rintro e w1 ⟨rfl, hb1⟩; have HB1 : Hid (Below wr.heap.size wr w1) := HB0.out.trans (hb1.mono HB0.out.size); have k1 := HCB.out _ HB1.out; clear hb1)
        | (go_at_call 109; refine (blNumber_any y1 y2 _).mono ?_; rintro e w2 ⟨rfl, hb2⟩; have HB2 : Hid (Below wr.heap.size wr w2) := HB1.out.trans (hb2.mono HB1.out.size); have k2 := HCB.out _ HB2.out; clear hb2))
      go_wp2
      go_roundw
      case rel => exact ⟨k + 1, by omega, by omega, by go_num, hb.out.trans (HB2.out.mono hs1), HNW⟩
      case measure => simp [intOf]; omega
    have HR := Lib.hid (HYES.out (fun i h1 h2 => hok.out i (by omega) h1 h2))
    have hltI : ¬ (k : Int) < (n : Int) := by omega
    go_wp2
    go_ret
    exact ⟨ret_boolS HR.out.symm, hb.out⟩
set_option maxHeartbeats 2000000 in
set_option maxRecDepth 100000 in
theorem indexFunc_any (va : Value) (l : List Bl) (w : World) (ha : RdB w va l) (hl : l.length ≤ 1048576) (hs : ∀ p ∈ l, p.2.size ≤ 9223372036854775807) :
    Calls Try.prog 70 #[va, .func (.func 53) #[] #[]] w fun e w' => ∃ r : Int, e = .returned (.int .i64 r) ∧ ((r = -1 ∧ l.any wrongB = false) ∨ (0 ≤ r ∧ l.any wrongB = true)) ∧ Below w.heap.size w w' := by
  have HS : Hid (∀ i, i < l.length → (l.getD i bl0).2.size ≤ 9223372036854775807) := fun i hi => by
    rw [getD_at hi]
    exact hs _ (List.getElem_mem hi)
  have HYES : Hid (∀ i, i < l.length → wrongB (l.getD i bl0) = true → l.any wrongB = true) := fun i hi h => anyB_yes hi h
  have HNO : Hid ((∀ i, i < l.length → wrongB (l.getD i bl0) = false) → l.any wrongB = false) := fun h => anyB_no h
  rcases rdB_cases ha with ⟨h0, ao, cap, rfl⟩ | ⟨hp, b, off, cap, rfl, _, hlt, hc⟩
  · subst h0
    go_enter Try.func70, Try.ntmps70
    go_wp2
    refine wp_loop_rounds 1 ?_
    rw [rounds_succ]
    go_wp2
    go_ret
    exact ⟨-1, rfl, Or.inl ⟨rfl, rfl⟩, Below.refl _ _⟩
  have HA : Hid (CellsB b off l w) := hc
  generalize l.any wrongB = r at HNO HYES ⊢
  obtain ⟨n, hn⟩ : ∃ n, n = l.length := ⟨_, rfl⟩
  rw [← hn] at hp hl HNO HYES HS ⊢
  have HN : Hid (n = l.length) := hn
  clear hc ha hn hs
  go_enter Try.func70, Try.ntmps70
  go_wp2
  go_loopw [8] (fun i wr => ∃ k : Nat, k ≤ n ∧ i = .int .i64 k ∧ Hid (Below w.heap.size w wr) ∧ Hid (∀ i, i < k → wrongB (l.getD i bl0) = false)) (fun i _ => n - (intOf i).toNat)
  case atStart => exact ⟨0, Nat.zero_le _, rfl, Below.refl _ _, fun i h1 => by omega⟩
  case round =>
    rename World => wr
    obtain ⟨k, hk, rfl, hb, hok⟩ := hrel
    by_cases hltk : k < n
    focus
      have hs1 := hb.out.size
      have hkl : k < l.length := by have := HN.out; omega
      obtain ⟨d0, d1⟩ := cellsB_below HA.out hlt hb.out k hkl
      have hsz := HS.out k hltk
      have hyes := Lib.hid (HYES.out k hltk)
      have hnew : Hid (wrongB (l.getD k bl0) = false → ∀ i, i < k + 1 → wrongB (l.getD i bl0) = false) := fun h i hi => by
        rcases Nat.lt_or_ge i k with g | g
        · exact hok.out i g
        · obtain rfl : i = k := by omega
          exact h
      obtain ⟨x, hx⟩ : ∃ x, x = l.getD k bl0 := ⟨_, rfl⟩
      rw [← hx] at d0 d1 hsz hyes hnew
      obtain ⟨x1, x2⟩ := x
      simp only at d0 d1 hsz
      clear hx hok hkl
      have hcall := blWrong_any x1 x2 wr hsz
      cases hw : wrongB (x1, x2) with
      | true =>
        rw [hw] at hcall
        have HR := Lib.hid (hyes.out hw)
        clear hyes hnew hw
        go_wp2_with fail
        refine hcall.mono ?_
        rintro e w2 ⟨rfl, hb2⟩
        have HB2 := Lib.hid (hb.out.trans (hb2.mono hs1))
        clear hcall hb2
        go_wp2
        go_ret
        exact ⟨(k : Int), rfl, Or.inr ⟨by omega, HR.out⟩, HB2.out⟩
      | false =>
        rw [hw] at hcall
        have HNW := Lib.hid (hnew.out hw)
        clear hyes hnew hw
        go_wp2_with fail
        refine hcall.mono ?_
        rintro e w2 ⟨rfl, hb2⟩
        have HB2 := Lib.hid (hb.out.trans (hb2.mono hs1))
        clear hcall hb2
        go_wp2
        go_roundw
        case rel => exact ⟨k + 1, by omega, by go_num, HB2, HNW⟩
        case measure => simp [intOf]; omega
    have HR := Lib.hid (HNO.out (fun i hi => hok.out i (by omega)))
    go_wp2
    go_ret
    exact ⟨-1, rfl, Or.inl ⟨rfl, HR.out⟩, hb.out⟩
theorem containsFunc_any (va : Value) (l : List Bl) (w : World) (ha : RdB w va l) (hl : l.length ≤ 1048576) (hs : ∀ p ∈ l, p.2.size ≤ 9223372036854775807) :
    Calls Try.prog 52 #[va, .func (.func 53) #[] #[]] w fun e w' => e = .returned (.bool (l.any wrongB)) ∧ Below w.heap.size w w' := by
  have hcall := indexFunc_any va l w ha hl hs
  generalize l.any wrongB = r at hcall ⊢
  obtain ⟨ao, cap, rfl⟩ := rdB_shape ha
  clear ha hs
  go_enter Try.func52, Try.ntmps52
  go_wp2_with fail
  refine hcall.mono ?_
  rintro e w2 ⟨i, rfl, h, hb2⟩
  rcases h with ⟨hi, hr⟩ | ⟨hi, hr⟩
  · have hI : ¬ 0 ≤ i := by omega
    clear hi hcall
    subst hr
    go_wp2
    go_ret
    exact ⟨by first | rfl | exact ret_boolS (decide_eq_false (by omega)), hb2⟩
  · clear hcall
    subst hr
    go_wp2
    go_ret
    exact ⟨by first | rfl | exact ret_boolS (decide_eq_true (by omega)), hb2⟩
set_option maxHeartbeats 1000000 in
theorem implStoreOk_any (va : Value) (l : List Bl) (w : World) (ha : RdB w va l) (hl : l.length ≤ 1048576) (hs : ∀ p ∈ l, p.2.size ≤ 1048576) :
    Calls Try.prog 24 #[va] w fun e w' => e = .returned (.bool (storeB l)) ∧ Below w.heap.size w w' := by
  have hri := rises_any va l w ha hl
  have hco := fun w' (h : Below w.heap.size w w') => containsFunc_any va l w' (rdB_below ha h) hl (fun p hp => by have := hs p hp; omega)
  by_cases h300 : 300 < l.length
  focus
    have e := storeB_len (l := l) (by omega)
    rw [e]
    obtain ⟨ao, cap, rfl⟩ := rdB_shape ha
    have hI : ¬ (l.length : Int) ≤ 300 := by omega
    clear e hri hco
    go_enter Try.func24, Try.ntmps24
    go_wp2
    go_ret
    exact ⟨rfl, Below.refl _ _⟩
  have hI : (l.length : Int) ≤ 300 := by omega
  rw [storeB_parts (by omega)]
  generalize riseB l = r1 at hri ⊢
  generalize l.any wrongB = r2 at hco ⊢
  obtain ⟨ao, cap, rfl⟩ := rdB_shape ha
  clear hs ha h300
  cases r1 with
  | false =>
    go_enter Try.func24, Try.ntmps24
    go_wp2_with fail
    refine hri.mono ?_
    rintro e w2 ⟨rfl, hb2⟩
    clear hri hco
    go_wp2
    go_ret
    exact ⟨rfl, hb2⟩
  | true =>
    go_enter Try.func24, Try.ntmps24
    go_wp2_with fail
    refine hri.mono ?_
    rintro e w2 ⟨rfl, hb2⟩
    have hco2 := hco w2 hb2
    clear hri hco
    go_wp2_with fail
    refine hco2.mono ?_
    rintro e w3 ⟨rfl, hb3⟩
    have hb4 := hb2.trans (hb3.mono hb2.size)
    clear hco2 hb2 hb3
    go_wp2
    go_ret
    exact ⟨by simp, hb4⟩
end Go.Proofs.Ytfoncmeplofedae
