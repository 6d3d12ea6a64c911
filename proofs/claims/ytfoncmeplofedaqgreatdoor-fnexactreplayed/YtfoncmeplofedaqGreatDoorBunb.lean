/- Basic texts of this claim put together. (Written by bundles.py.) -/
import Derived.Test.YtfoncmeplofedaqGreatDoorBuna
import Derived.Lib.Strings
import Derived.Lib.Walk
import Derived.Lib.BufferWrite
import Derived.Lib.UnsafeStr
import Derived.Lib.Hide
import Derived.Laws.MakeOwn
import Derived.Deep.RegionHeld
import Derived.Deep.MidRow
import Derived.Deep.LoopGhost
import Derived.Deep.Upon
namespace Go.Proofs.YtfoncmeplofedaqGreatDoor
open Go.RowKit
set_option linter.unusedVariables false
/-- a row of blobs at a block, cell by cell -/
def CellsB (b off : Nat) (l : List Bl) (w : World) : Prop := ∀ j, j < l.length → w.cell? ⟨b, off + j * 2, none⟩ = some (.int .i64 (l.getD j bl0).1) ∧ w.cell? ⟨b, off + j * 2 + 1, none⟩ = some (.string (l.getD j bl0).2)
theorem cellsB_below {b off : Nat} {l : List Bl} {w w' : World} (h : CellsB b off l w) (hlt : b < w.heap.size) (hb : Below w.heap.size w w') : CellsB b off l w' :=
  fun j hj => ⟨(hb.cell (p := ⟨b, off + j * 2, none⟩) hlt).trans (h j hj).1, (hb.cell (p := ⟨b, off + j * 2 + 1, none⟩) hlt).trans (h j hj).2⟩
def riseB (l : List Bl) : Bool := (List.range l.length).all fun i => decide (i = 0) || decide ((l.getD (i - 1) bl0).1 < (l.getD i bl0).1)
theorem riseB_no {l : List Bl} {i : Nat} (hi : i < l.length) (h0 : 0 < i) (h : ¬ (l.getD (i - 1) bl0).1 < (l.getD i bl0).1) : riseB l = false := by
  cases hs : riseB l with
  | false => rfl
  | true =>
    unfold riseB at hs
    rw [List.all_eq_true] at hs
    have h2 := hs i (List.mem_range.2 hi)
    rw [Bool.or_eq_true, decide_eq_true_eq, decide_eq_true_eq] at h2
    rcases h2 with h2 | h2
    · omega
    · exact absurd h2 h
theorem riseB_yes {l : List Bl} (h : ∀ i, i < l.length → 0 < i → (l.getD (i - 1) bl0).1 < (l.getD i bl0).1) : riseB l = true := by
  unfold riseB
  rw [List.all_eq_true]
  intro i hi
  have hi := List.mem_range.1 hi
  rw [Bool.or_eq_true, decide_eq_true_eq, decide_eq_true_eq]
  by_cases h0 : i = 0
  · exact Or.inl h0
  · exact Or.inr (h i hi (by omega))
theorem anyB_yes {l : List Bl} {i : Nat} (hi : i < l.length) (h : wrongB (l.getD i bl0) = true) : l.any wrongB = true := by
  rw [List.any_eq_true]
  rw [getD_at hi] at h
  exact ⟨_, List.getElem_mem hi, h⟩
theorem anyB_no {l : List Bl} (h : ∀ i, i < l.length → wrongB (l.getD i bl0) = false) : l.any wrongB = false := by
  rw [List.any_eq_false]
  intro p hp
  obtain ⟨i, hi, rfl⟩ := List.getElem_of_mem hp
  have := h i hi
  rw [getD_at hi] at this
  simp [this]
theorem storeB_parts {l : List Bl} (h : l.length ≤ 300) : storeB l = (riseB l && !(l.any wrongB)) := by
  by_cases hr : riseB l = true
  · by_cases ha : l.any wrongB = true
    · rw [hr, ha]
      obtain ⟨p, hp, hw⟩ := List.any_eq_true.1 ha
      cases hs : storeB l with
      | false => rfl
      | true =>
        obtain ⟨_, h2, _⟩ := storeB_iff.1 hs
        obtain ⟨h3, h4⟩ := h2 p hp
        unfold wrongB at hw
        rw [Bool.or_eq_true] at hw
        rcases hw with hw | hw
        · have := of_decide_eq_true hw; omega
        · simp [h4] at hw
    · have ha := Bool.not_eq_true _ ▸ ha
      rw [hr, ha]
      refine storeB_iff.2 ⟨h, fun p hp => ?_, rise_of fun i h0 hi => ?_⟩
      · have := List.any_eq_false.1 ha p hp
        unfold wrongB at this
        simp only [Bool.not_eq_true, Bool.or_eq_false_iff, decide_eq_false_iff_not, Bool.not_eq_false', decide_eq_true_eq] at this
        exact ⟨by omega, this.2.symm⟩
      · unfold riseB at hr
        rw [List.all_eq_true] at hr
        have h2 := hr i (List.mem_range.2 hi)
        rw [Bool.or_eq_true, decide_eq_true_eq, decide_eq_true_eq] at h2
        rcases h2 with h2 | h2
        · omega
        · exact h2
  · have hr := Bool.not_eq_true _ ▸ hr
    rw [hr, Bool.false_and]
    cases hs : storeB l with
    | false => rfl
    | true =>
      obtain ⟨_, _, h3⟩ := storeB_iff.1 hs
      rw [← hr]
      symm
      refine riseB_yes fun i hi h0 => ?_
      have := List.pairwise_iff_getElem.1 h3 (i - 1) i (by omega) hi (by omega)
      rw [getD_at hi, getD_at (show i - 1 < l.length by omega)]
      exact this
set_option maxHeartbeats 2000000 in
set_option maxRecDepth 100000 in
theorem rises_any (va : Value) (l : List Bl) (w : World) (ha : RdB w va l) (hl : l.length ≤ 1048576) :
    Calls Tryz.prog 71 #[va] w fun e w' => e = .returned (.bool (riseB l)) ∧ Below w.heap.size w w' := by
  have HNO : Hid (∀ i, i < l.length → 0 < i → ¬ (l.getD (i - 1) bl0).1 < (l.getD i bl0).1 → riseB l = false) := fun i hi h0 h => riseB_no hi h0 h
  have HYES : Hid ((∀ i, i < l.length → 0 < i → (l.getD (i - 1) bl0).1 < (l.getD i bl0).1) → riseB l = true) := fun h => riseB_yes h
  rcases rdB_cases ha with ⟨h0, ao, cap, rfl⟩ | ⟨hp, b, off, cap, rfl, _, hlt, hc⟩
  · subst h0
    have e : riseB [] = true := rfl
    rw [e]
    go_enter Tryz.func71, Tryz.ntmps71
    go_wp2
    refine wp_loop_rounds 1 ?_
    rw [rounds_succ]
    go_wp2
    go_ret
    exact ⟨rfl, Below.refl _ _⟩
  have HA : Hid (CellsB b off l w) := hc
  generalize riseB l = r at HNO HYES ⊢
  obtain ⟨n, hn⟩ : ∃ n, n = l.length := ⟨_, rfl⟩
  rw [← hn] at hp hl HNO HYES ⊢
  have HN : Hid (n = l.length) := hn
  clear hc ha hn
  have mn := fun z W => meth_number z W
  go_enter Tryz.func71, Tryz.ntmps71
  go_wp2
  go_loopw [3] (fun i wr => ∃ k : Nat, 1 ≤ k ∧ k ≤ n + 1 ∧ i = .int .i64 k ∧ Hid (Below w.heap.size w wr) ∧ Hid (∀ i, i < k → i < n → 0 < i → (l.getD (i - 1) bl0).1 < (l.getD i bl0).1)) (fun i _ => n + 1 - (intOf i).toNat)
  case atStart => exact ⟨1, Nat.le_refl _, by omega, rfl, Below.refl _ _, fun i h1 h2 h3 => by omega⟩
  case round =>
    rename World => wr
    obtain ⟨k, hk1, hk, rfl, hb, hok⟩ := hrel
    by_cases hltk : k < n
    focus
      obtain ⟨j, hj⟩ : ∃ j : Nat, (k : Int) - 1 = (j : Int) := ⟨k - 1, by omega⟩
      have hjk : k - 1 = j := by omega
      have hjn : j < n := by omega
      have hs1 := hb.out.size
      have HCB : Hid (∀ w', Below wr.heap.size wr w' → (w'.cell? ⟨b, off + k * 2, none⟩ = some (.int .i64 (l.getD k bl0).1) ∧ w'.cell? ⟨b, off + k * 2 + 1, none⟩ = some (.string (l.getD k bl0).2)) ∧ (w'.cell? ⟨b, off + j * 2, none⟩ = some (.int .i64 (l.getD j bl0).1) ∧ w'.cell? ⟨b, off + j * 2 + 1, none⟩ = some (.string (l.getD j bl0).2))) := fun w' hw' => by
        have h1 := cellsB_below HA.out hlt (hb.out.trans (hw'.mono hs1))
        have hx := HN.out
        exact ⟨h1 k (by omega), h1 j (by omega)⟩
      have HNk := Lib.hid (HNO.out k hltk (by omega))
      rw [hjk] at HNk
      have hnew : Hid ((l.getD j bl0).1 < (l.getD k bl0).1 → ∀ i, i < k + 1 → i < n → 0 < i → (l.getD (i - 1) bl0).1 < (l.getD i bl0).1) := fun h i h1 h2 h3 => by
        rcases Nat.lt_or_ge i k with g | g
        · exact hok.out i g h2 h3
        · obtain rfl : i = k := by omega
          rw [hjk]; exact h
      obtain ⟨x, hx⟩ : ∃ x, x = l.getD k bl0 := ⟨_, rfl⟩
      obtain ⟨y, hy⟩ : ∃ y, y = l.getD j bl0 := ⟨_, rfl⟩
      rw [← hx, ← hy] at HCB HNk hnew
      obtain ⟨x1, x2⟩ := x
      obtain ⟨y1, y2⟩ := y
      simp only at HCB HNk hnew
      clear hx hy hok hjk
      have hjI : IntKind.i64.wrap ((k : Int) - 1) = (j : Int) := by rw [hj]; exact IntWalk.i64_in _ ⟨by omega, by omega⟩
      have hjw : IntKind.i64.wrap (j : Int) = (j : Int) := IntWalk.i64_in _ ⟨by omega, by omega⟩
      have hjnI : (j : Int) < (n : Int) := by omega
      clear hj
      have HB0 : Hid (Below wr.heap.size wr wr.drew) := (Below.refl _ _).drew
      have k0 := HCB.out _ HB0.out
      by_cases hle : x1 ≤ y1
      focus
        have HR := Lib.hid (HNk.out (by omega))
        clear HNk hnew
        have g3 : decide (x1 ≤ y1) = true := decide_eq_true hle
        go_wp2
        go_region_held (fun w' : World => (w'.cell? ⟨b, off + k * 2, none⟩ = some (.int .i64 x1) ∧ w'.cell? ⟨b, off + k * 2 + 1, none⟩ = some (.string x2)) ∧ (w'.cell? ⟨b, off + j * 2, none⟩ = some (.int .i64 y1) ∧ w'.cell? ⟨b, off + j * 2 + 1, none⟩ = some (.string y2)))
          (first | exact k0 | exact k1 | exact k2)
          (first
          | (go_at_call 87; refine (blNumber_any x1 x2 _).mono ?_; rintro e w1 ⟨rfl, hb1⟩; have HB1 : Hid (Below wr.heap.size wr w1) := HB0.out.trans (hb1.mono HB0.out.size); have k1 := HCB.out _ HB1.out; clear hb1)
          | (go_at_call 87; refine (blNumber_any y1 y2 _).mono ?_; rintro e w2 ⟨rfl, hb2⟩; have HB2 : Hid (Below wr.heap.size wr w2) := HB1.out.trans (hb2.mono HB1.out.size); have k2 := HCB.out _ HB2.out; clear hb2))
        go_wp2
        go_ret
        exact ⟨ret_boolS HR.out.symm, hb.out.trans (HB2.out.mono hs1)⟩
      have HNW := Lib.hid (hnew.out (by omega))
      clear HNk hnew
      have g3 : decide (x1 ≤ y1) = false := decide_eq_false hle
      go_wp2
      go_region_held (fun w' : World => (w'.cell? ⟨b, off + k * 2, none⟩ = some (.int .i64 x1) ∧ w'.cell? ⟨b, off + k * 2 + 1, none⟩ = some (.string x2)) ∧ (w'.cell? ⟨b, off + j * 2, none⟩ = some (.int .i64 y1) ∧ w'.cell? ⟨b, off + j * 2 + 1, none⟩ = some (.string y2)))
        (first | exact k0 | exact k1 | exact k2)
        (first
        | (go_at_call 87; refine (blNumber_any x1 x2 _).mono ?_; rintro e w1 ⟨rfl, hb1⟩; have HB1 : Hid (Below wr.heap.size wr w1) := HB0.out.trans (hb1.mono HB0.out.size); have k1 := HCB.out _ HB1.out; clear hb1)
        | (go_at_call 87; refine (blNumber_any y1 y2 _).mono ?_; rintro e w2 ⟨rfl, hb2⟩; have HB2 : Hid (Below wr.heap.size wr w2) := HB1.out.trans (hb2.mono HB1.out.size); have k2 := HCB.out _ HB2.out; clear hb2))
      go_wp2
      go_roundw
      case rel => exact ⟨k + 1, by omega, by omega, by go_num, hb.out.trans (HB2.out.mono hs1), HNW⟩
      case measure => simp [intOf]; omega
    have HR := Lib.hid (HYES.out (fun i h1 h2 => hok.out i (by omega) h1 h2))
    have hltI : ¬ (k : Int) < (n : Int) := by omega
    go_wp2
    go_ret
    exact ⟨ret_boolS HR.out.symm, hb.out⟩
set_option maxHeartbeats 2000000 in
set_option maxRecDepth 100000 in
theorem indexFunc_any (va : Value) (l : List Bl) (w : World) (ha : RdB w va l) (hl : l.length ≤ 1048576) (hs : ∀ p ∈ l, p.2.size ≤ 9223372036854775807) :
    Calls Tryz.prog 88 #[va, .func (.func 73) #[] #[]] w fun e w' => ∃ r : Int, e = .returned (.int .i64 r) ∧ ((r = -1 ∧ l.any wrongB = false) ∨ (0 ≤ r ∧ l.any wrongB = true)) ∧ Below w.heap.size w w' := by
  have HS : Hid (∀ i, i < l.length → (l.getD i bl0).2.size ≤ 9223372036854775807) := fun i hi => by
    rw [getD_at hi]
    exact hs _ (List.getElem_mem hi)
  have HYES : Hid (∀ i, i < l.length → wrongB (l.getD i bl0) = true → l.any wrongB = true) := fun i hi h => anyB_yes hi h
  have HNO : Hid ((∀ i, i < l.length → wrongB (l.getD i bl0) = false) → l.any wrongB = false) := fun h => anyB_no h
  rcases rdB_cases ha with ⟨h0, ao, cap, rfl⟩ | ⟨hp, b, off, cap, rfl, _, hlt, hc⟩
  · subst h0
    go_enter Tryz.func88, Tryz.ntmps88
    go_wp2
    refine wp_loop_rounds 1 ?_
    rw [rounds_succ]
    go_wp2
    go_ret
    exact ⟨-1, rfl, Or.inl ⟨rfl, rfl⟩, Below.refl _ _⟩
  have HA : Hid (CellsB b off l w) := hc
  generalize l.any wrongB = r at HNO HYES ⊢
  obtain ⟨n, hn⟩ : ∃ n, n = l.length := ⟨_, rfl⟩
  rw [← hn] at hp hl HNO HYES HS ⊢
  have HN : Hid (n = l.length) := hn
  clear hc ha hn hs
  go_enter Tryz.func88, Tryz.ntmps88
  go_wp2
  go_loopw [8] (fun i wr => ∃ k : Nat, k ≤ n ∧ i = .int .i64 k ∧ Hid (Below w.heap.size w wr) ∧ Hid (∀ i, i < k → wrongB (l.getD i bl0) = false)) (fun i _ => n - (intOf i).toNat)
  case atStart => exact ⟨0, Nat.zero_le _, rfl, Below.refl _ _, fun i h1 => by omega⟩
  case round =>
    rename World => wr
    obtain ⟨k, hk, rfl, hb, hok⟩ := hrel
    by_cases hltk : k < n
    focus
      have hs1 := hb.out.size
      have hkl : k < l.length := by have := HN.out; omega
      obtain ⟨d0, d1⟩ := cellsB_below HA.out hlt hb.out k hkl
      have hsz := HS.out k hltk
      have hyes := Lib.hid (HYES.out k hltk)
      have hnew : Hid (wrongB (l.getD k bl0) = false → ∀ i, i < k + 1 → wrongB (l.getD i bl0) = false) := fun h i hi => by
        rcases Nat.lt_or_ge i k with g | g
        · exact hok.out i g
        · obtain rfl : i = k := by omega
          exact h
      obtain ⟨x, hx⟩ : ∃ x, x = l.getD k bl0 := ⟨_, rfl⟩
      rw [← hx] at d0 d1 hsz hyes hnew
      obtain ⟨x1, x2⟩ := x
      simp only at d0 d1 hsz
      clear hx hok hkl
      have hcall := blWrong_any x1 x2 wr hsz
      cases hw : wrongB (x1, x2) with
      | true =>
        rw [hw] at hcall
        have HR := Lib.hid (hyes.out hw)
        clear hyes hnew hw
        go_wp2_with fail
        refine hcall.mono ?_
        rintro e w2 ⟨rfl, hb2⟩
        have HB2 := Lib.hid (hb.out.trans (hb2.mono hs1))
        clear hcall hb2
        go_wp2
        go_ret
        exact ⟨(k : Int), rfl, Or.inr ⟨by omega, HR.out⟩, HB2.out⟩
      | false =>
        rw [hw] at hcall
        have HNW := Lib.hid (hnew.out hw)
        clear hyes hnew hw
        go_wp2_with fail
        refine hcall.mono ?_
        rintro e w2 ⟨rfl, hb2⟩
        have HB2 := Lib.hid (hb.out.trans (hb2.mono hs1))
        clear hcall hb2
        go_wp2
        go_roundw
        case rel => exact ⟨k + 1, by omega, by go_num, HB2, HNW⟩
        case measure => simp [intOf]; omega
    have HR := Lib.hid (HNO.out (fun i hi => hok.out i (by omega)))
    go_wp2
    go_ret
    exact ⟨-1, rfl, Or.inl ⟨rfl, HR.out⟩, hb.out⟩
theorem containsFunc_any (va : Value) (l : List Bl) (w : World) (ha : RdB w va l) (hl : l.length ≤ 1048576) (hs : ∀ p ∈ l, p.2.size ≤ 9223372036854775807) :
    Calls Tryz.prog 72 #[va, .func (.func 73) #[] #[]] w fun e w' => e = .returned (.bool (l.any wrongB)) ∧ Below w.heap.size w w' := by
  have hcall := indexFunc_any va l w ha hl hs
  generalize l.any wrongB = r at hcall ⊢
  obtain ⟨ao, cap, rfl⟩ := rdB_shape ha
  clear ha hs
  go_enter Tryz.func72, Tryz.ntmps72
  go_wp2_with fail
  refine hcall.mono ?_
  rintro e w2 ⟨i, rfl, h, hb2⟩
  rcases h with ⟨hi, hr⟩ | ⟨hi, hr⟩
  · have hI : ¬ 0 ≤ i := by omega
    clear hi hcall
    subst hr
    go_wp2
    go_ret
    exact ⟨by first | rfl | exact ret_boolS (decide_eq_false (by omega)), hb2⟩
  · clear hcall
    subst hr
    go_wp2
    go_ret
    exact ⟨by first | rfl | exact ret_boolS (decide_eq_true (by omega)), hb2⟩
set_option maxHeartbeats 1000000 in
theorem implStoreOk_any (va : Value) (l : List Bl) (w : World) (ha : RdB w va l) (hl : l.length ≤ 1048576) (hs : ∀ p ∈ l, p.2.size ≤ 1048576) :
    Calls Tryz.prog 52 #[va] w fun e w' => e = .returned (.bool (storeB l)) ∧ Below w.heap.size w w' := by
  have hri := rises_any va l w ha hl
  have hco := fun w' (h : Below w.heap.size w w') => containsFunc_any va l w' (rdB_below ha h) hl (fun p hp => by have := hs p hp; omega)
  by_cases h300 : 300 < l.length
  focus
    have e := storeB_len (l := l) (by omega)
    rw [e]
    obtain ⟨ao, cap, rfl⟩ := rdB_shape ha
    have hI : ¬ (l.length : Int) ≤ 300 := by omega
    clear e hri hco
    go_enter Tryz.func52, Tryz.ntmps52
    go_wp2
    go_ret
    exact ⟨rfl, Below.refl _ _⟩
  have hI : (l.length : Int) ≤ 300 := by omega
  rw [storeB_parts (by omega)]
  generalize riseB l = r1 at hri ⊢
  generalize l.any wrongB = r2 at hco ⊢
  obtain ⟨ao, cap, rfl⟩ := rdB_shape ha
  clear hs ha h300
  cases r1 with
  | false =>
    go_enter Tryz.func52, Tryz.ntmps52
    go_wp2_with fail
    refine hri.mono ?_
    rintro e w2 ⟨rfl, hb2⟩
    clear hri hco
    go_wp2
    go_ret
    exact ⟨rfl, hb2⟩
  | true =>
    go_enter Tryz.func52, Tryz.ntmps52
    go_wp2_with fail
    refine hri.mono ?_
    rintro e w2 ⟨rfl, hb2⟩
    have hco2 := hco w2 hb2
    clear hri hco
    go_wp2_with fail
    refine hco2.mono ?_
    rintro e w3 ⟨rfl, hb3⟩
    have hb4 := hb2.trans (hb3.mono hb2.size)
    clear hco2 hb2 hb3
    go_wp2
    go_ret
    exact ⟨by simp, hb4⟩
end Go.Proofs.YtfoncmeplofedaqGreatDoor

namespace Go.Proofs.YtfoncmeplofedaqGreatDoor
open Go.RowKit

set_option maxHeartbeats 2000000 in
set_option maxRecDepth 100000 in
theorem clone_any (s : ByteArray) (w : World) (hlim : s.size ≤ 281474976710656) :
    Calls Tryz.prog 84 #[.string s] w fun e w' => e = .returned (.string s) ∧ Below w.heap.size w w' := by
  by_cases h0 : s.size = 0
  · have hs : s = ⟨#[]⟩ := by
      apply ByteArray.ext
      exact Array.eq_empty_of_size_eq_zero h0
    subst hs
    go_enter Tryz.func84, Tryz.ntmps84
    go_wp2
    go_ret
    exact ⟨rfl, Below.refl _ _⟩
  · obtain ⟨i0, hi, hz0, hz1, hz2⟩ := info_parts Tryz.infoB
    have hinfo : (Tryz.prog.info? 5).map (·.size) = some 1 := by rw [hi]; simp [hz1]
    have hco : Tryz.prog.cellsOf 5 = 1 := by simp [Program.cellsOf, hi, hz1]
    obtain ⟨M, hM⟩ : ∃ M, M = madeCells (Value.int .u8 0).cells (((s.size : Nat) : Int).toNat * i0.size) := ⟨_, rfl⟩
    have hMs : M.size = s.size := by rw [hM, size_madeCells, hz1]; simp
    have hmk : ∀ W : World, (Instr.makeSlice 73 (.int .i64 (s.size : Int)) (.int .i64 (s.size : Int))).run Tryz.prog W = .ok (.slice (some ⟨W.heap.size, 0, none⟩) s.size s.size) (W.alloc (.cells M 5)) := fun W => by
      have h := run_make (P := Tryz.prog) W 73 5 i0 (.int .u8 0) Tryz.underlying73 hi hz0 .i64 .i64 (s.size : Int) (s.size : Int) (by omega) (by omega) (by rw [hz2]; omega) (by omega)
      rw [← hM] at h
      simpa using h
    clear hM
    have hcp := Lib.run_copy_row_string (P := Tryz.prog) (w.alloc (.cells M 5)) 73 9 3 5 w.heap.size 0 s.size s.size s M 5 Tryz.underlying73 hinfo (heap_alloc_new w _) (Nat.le_refl _) (by omega)
    obtain ⟨Y, hY⟩ : ∃ Y, Y = (M.toList.take 0 ++ Lib.byteCells s.data.toList ++ M.toList.drop (0 + s.size)).toArray := ⟨_, rfl⟩
    rw [← hY] at hcp
    have hYl : Y.toList = Lib.byteCells s.data.toList := by
      rw [hY, List.toList_toArray, List.take_zero, List.nil_append, List.drop_of_length_le (by rw [Array.length_toList]; omega), List.append_nil]
    have hYs : Y.size = s.size := by rw [← Array.length_toList, hYl, Lib.byteCells_length, ← Lib.size_eq]
    have hgY : ((w.alloc (.cells M 5)).setRow w.heap.size Y).heap[w.heap.size]? = some (.cells Y 5 (0, 0)) := setRow_heap _ _ M _ 5 (0, 0) (heap_alloc_new w _)
    have hne : s.data.toList ≠ [] := fun e => h0 (by rw [Lib.size_eq, e]; rfl)
    have hUS := Lib.run_unsafeString_row (P := Tryz.prog) ((w.alloc (.cells M 5)).setRow w.heap.size Y) 152 3 9 5 Tryz.underlying152 hco w.heap.size Y.size (by unfold World.shape?; rw [hgY]) s.data.toList hne (by rw [← Lib.size_eq]; omega) (by rw [← Lib.size_eq]; omega)
      (fun j x hx => Lib.cells_of_row hgY Y.size j _ (by rw [List.take_of_length_le (by rw [Array.length_toList]; exact Nat.le_refl _), hYl]; simp [Lib.byteCells, hx]))
    rw [← Lib.size_eq] at hUS
    clear hY
    go_enter Tryz.func84, Tryz.ntmps84
    go_wp2
    go_ret
    have hb1 : Below w.heap.size w (w.alloc (.cells M 5)) := (Below.refl _ w).alloc (Nat.le_refl _) _
    have hb2 : Below w.heap.size (w.alloc (.cells M 5)) ((w.alloc (.cells M 5)).setRow w.heap.size Y) := ⟨rfl, rfl, rfl, by simp, fun k hk => setRow_other _ _ _ _ (by omega)⟩
    exact ⟨rfl, Lib.below_freeze (hb1.trans hb2) (p := ⟨w.heap.size, 0, none⟩) (Nat.le_refl _) _⟩

end Go.Proofs.YtfoncmeplofedaqGreatDoor

namespace Go.Proofs.YtfoncmeplofedaqGreatDoor
open Go.RowKit
set_option linter.unusedVariables false
def cmpI (x y : Int) : Int := if x < y then -1 else if y < x then 1 else 0
theorem cmpI_neg {x y : Int} : cmpI x y < 0 ↔ x < y := by
  unfold cmpI
  by_cases h : x < y
  · rw [if_pos h]; simp [h]
  · rw [if_neg h]
    by_cases h2 : y < x
    · rw [if_pos h2]; simp [h]
    · rw [if_neg h2]; simp [h]
theorem cmpI_zero {x y : Int} : cmpI x y = 0 ↔ x = y := by
  unfold cmpI
  by_cases h : x < y
  · rw [if_pos h]; omega
  · rw [if_neg h]
    by_cases h2 : y < x
    · rw [if_pos h2]; omega
    · rw [if_neg h2]; omega
theorem isNaN_any (x : Int) (w : World) : Calls Tryz.prog 91 #[.int .i64 x] w fun e w' => e = .returned (.bool false) ∧ w' = w := by
  go_enter Tryz.func91, Tryz.ntmps91
  go_wp2
  go_ret
  exact ⟨by simp, rfl⟩
theorem compare_any (x y : Int) (w : World) : Calls Tryz.prog 81 #[.int .i64 x, .int .i64 y] w fun e w' => e = .returned (.int .i64 (cmpI x y)) ∧ w' = w := by
  obtain ⟨r, hr⟩ : ∃ r, r = cmpI x y := ⟨_, rfl⟩
  rw [← hr]
  by_cases h1 : x < y
  · have e : r = -1 := by rw [hr]; unfold cmpI; rw [if_pos h1]
    subst e
    clear hr
    go_enter Tryz.func81, Tryz.ntmps81
    go_wp2_with fail
    refine (isNaN_any x _).mono ?_
    rintro e w8 ⟨rfl, rfl⟩
    go_wp2_with fail
    refine (isNaN_any y _).mono ?_
    rintro e w7 ⟨rfl, rfl⟩
    go_wp2
    go_ret
    exact ⟨rfl, rfl⟩
  · by_cases h2 : y < x
    · have e : r = 1 := by rw [hr]; unfold cmpI; rw [if_neg h1, if_pos h2]
      subst e
      clear hr
      go_enter Tryz.func81, Tryz.ntmps81
      go_wp2_with fail
      refine (isNaN_any x _).mono ?_
      rintro e w8 ⟨rfl, rfl⟩
      go_wp2_with fail
      refine (isNaN_any y _).mono ?_
      rintro e w7 ⟨rfl, rfl⟩
      go_wp2
      go_ret
      exact ⟨rfl, rfl⟩
    · have e : r = 0 := by rw [hr]; unfold cmpI; rw [if_neg h1, if_neg h2]
      subst e
      clear hr
      go_enter Tryz.func81, Tryz.ntmps81
      go_wp2_with fail
      refine (isNaN_any x _).mono ?_
      rintro e w8 ⟨rfl, rfl⟩
      go_wp2_with fail
      refine (isNaN_any y _).mono ?_
      rintro e w7 ⟨rfl, rfl⟩
      go_wp2
      go_ret
      exact ⟨rfl, rfl⟩
theorem ret_boolR {a b : Bool} (h : a = b) : Ending.returned (.bool a) = .returned (.bool b) := by rw [h]
/-- a row's numbers (so many of them) rise -/
def RiseN (N : Nat → Int) (n : Nat) : Prop := ∀ i, i < n → 0 < i → N (i - 1) < N i
def riseN (N : Nat → Int) (n : Nat) : Bool := (List.range n).all fun i => decide (i = 0) || decide (N (i - 1) < N i)
theorem riseN_iff {N : Nat → Int} {n : Nat} : riseN N n = true ↔ RiseN N n := by
  unfold riseN RiseN
  rw [List.all_eq_true]
  constructor
  · intro h i hi h0
    have h2 := h i (List.mem_range.2 hi)
    rw [Bool.or_eq_true, decide_eq_true_eq, decide_eq_true_eq] at h2
    rcases h2 with h2 | h2
    · omega
    · exact h2
  · intro h i hi
    rw [Bool.or_eq_true, decide_eq_true_eq, decide_eq_true_eq]
    by_cases h0 : i = 0
    · exact Or.inl h0
    · exact Or.inr (h i (List.mem_range.1 hi) (by omega))
theorem riseN_no {N : Nat → Int} {n i : Nat} (hi : i < n) (h0 : 0 < i) (h : ¬ N (i - 1) < N i) : riseN N n = false := by
  cases hs : riseN N n with
  | false => rfl
  | true => exact absurd (riseN_iff.1 hs i hi h0) h
theorem riseN_lt {N : Nat → Int} {n : Nat} (h : RiseN N n) : ∀ {a b : Nat}, a < b → b < n → N a < N b := by
  intro a b hab hb
  induction b with
  | zero => omega
  | succ b ih =>
    have h1 := h (b + 1) hb (by omega)
    rw [Nat.add_sub_cancel] at h1
    rcases Nat.lt_or_ge a b with g | g
    · have h2 := ih g (by omega); omega
    · obtain rfl : a = b := by omega
      exact h1
theorem riseN_le {N : Nat → Int} {n : Nat} (h : RiseN N n) {a b : Nat} (hab : a ≤ b) (hb : b < n) : N a ≤ N b := by
  rcases Nat.lt_or_ge a b with g | g
  · have := riseN_lt h g hb; omega
  · obtain rfl : a = b := by omega
    exact Int.le_refl _
/-- where a number is, or would be -/
def PlcN (N : Nat → Int) (n : Nat) (d : Int) (k : Nat) (fd : Bool) : Prop := k ≤ n ∧ (∀ j, j < k → N j < d) ∧ (∀ j, k ≤ j → j < n → d ≤ N j) ∧ fd = (decide (k < n) && decide (N k = d))
theorem plcN_yes {N : Nat → Int} {n : Nat} {d : Int} {k : Nat} (h : PlcN N n d k true) : k < n ∧ N k = d := by
  obtain ⟨_, h1, h2, h3⟩ := h
  have h3 := h3.symm
  rw [Bool.and_eq_true, decide_eq_true_eq, decide_eq_true_eq] at h3
  exact h3
theorem plcN_no {N : Nat → Int} {n : Nat} {d : Int} {k : Nat} (hr : RiseN N n) (h : PlcN N n d k false) : ∀ j, j < n → N j ≠ d := by
  obtain ⟨h0, h1, h2, h3⟩ := h
  intro j hj e
  rcases Nat.lt_or_ge j k with g | g
  · have := h1 j g; omega
  · have hk : k < n := by omega
    have h4 := h2 k (Nat.le_refl _) hk
    have h5 := riseN_le hr g hj
    have h6 : N k = d := by omega
    rw [decide_eq_true hk, decide_eq_true h6] at h3
    cases h3
end Go.Proofs.YtfoncmeplofedaqGreatDoor

namespace Go.Proofs.YtfoncmeplofedaqGreatDoor
open Go.RowKit
set_option linter.unusedVariables false
theorem meth_own (x : Array Value) (w : World) : (method 291 67 (.agg x) "loop.example/g00260/impl.own").run Tryz.prog w = .ok (63, .agg x) w := by kernel_rfl
theorem alloc_size (X : World) (o : Obj) : (X.alloc o).heap.size = X.heap.size + 1 := by show (X.heap.push _).size = _; rw [Array.size_push]
set_option maxHeartbeats 1000000 in
theorem blOwn_any (d : Int) (t : ByteArray) (w : World) (ht : t.size ≤ 281474976710656) :
    Calls Tryz.prog 63 #[.agg #[.int .i64 d, .string t]] w fun e w' => e = .returned (.agg #[.int .i64 d, .string t]) ∧ Below w.heap.size w w' := by
  have hcon : Hid (∀ W, W = ((w.alloc (.cells #[.int .i64 d, .string t] 67)).alloc (.cells #[.int .i64 0, .string ⟨#[]⟩] 67)).drew →
      Calls Tryz.prog 84 #[.string t] W fun e w' => e = .returned (.string t) ∧ Hid (∀ k0 k1, Below w.heap.size w ((w'.setCell ⟨w.heap.size + 1, 0, none⟩ k0).setCell ⟨w.heap.size + 1, 1, none⟩ k1) ∧ ((w'.setCell ⟨w.heap.size + 1, 0, none⟩ k0).setCell ⟨w.heap.size + 1, 1, none⟩ k1).heap[w.heap.size + 1]? = some (.cells #[k0, k1] 67 (0, 0)) ∧ ((w'.setCell ⟨w.heap.size + 1, 0, none⟩ k0).setCell ⟨w.heap.size + 1, 1, none⟩ k1).cell? ⟨w.heap.size, 0, none⟩ = some (.int .i64 d) ∧ ((w'.setCell ⟨w.heap.size + 1, 0, none⟩ k0).setCell ⟨w.heap.size + 1, 1, none⟩ k1).cell? ⟨w.heap.size, 1, none⟩ = some (.string t)) ∧ w'.heap[w.heap.size + 1]? = some (.cells #[.int .i64 0, .string ⟨#[]⟩] 67 (0, 0)) ∧ (w'.cell? ⟨w.heap.size, 0, none⟩ = some (.int .i64 d) ∧ w'.cell? ⟨w.heap.size, 1, none⟩ = some (.string t))) := by
    intro W hW
    have hbW : Below w.heap.size w W := by
      rw [hW]
      exact (((Below.refl _ w).alloc (Nat.le_refl _) _).alloc (by rw [alloc_size]; omega) _).drew
    have hsW : W.heap.size = w.heap.size + 2 := by
      rw [hW]
      show (World.alloc _ _).heap.size = _
      rw [alloc_size, alloc_size]
    have hz : W.heap[w.heap.size + 1]? = some (.cells #[.int .i64 0, .string ⟨#[]⟩] 67 (0, 0)) := by
      rw [hW]
      have e := heap_alloc_new (w.alloc (.cells #[.int .i64 d, .string t] 67)) (.cells #[.int .i64 0, .string ⟨#[]⟩] 67)
      rw [alloc_size] at e
      exact e
    have hX : W.heap[w.heap.size]? = some (.cells #[.int .i64 d, .string t] 67 (0, 0)) := by
      rw [hW]
      exact (Below.heap_alloc _ _ _ (by rw [alloc_size]; omega)).trans (heap_alloc_new w _)
    refine (clone_any t W ht).mono ?_
    rintro e w' ⟨rfl, hb⟩
    have hz2 := (hb.block (w.heap.size + 1) (by omega)).trans hz
    have hX2 := (hb.block w.heap.size (by omega)).trans hX
    have hbb : Below w.heap.size w w' := hbW.trans (hb.mono (by omega))
    refine ⟨rfl, fun k0 k1 => ?_, hz2, cell_of_row w' w.heap.size 0 _ _ _ hX2, cell_of_row w' w.heap.size 1 _ _ _ hX2⟩
    have hX3 : ((w'.setCell ⟨w.heap.size + 1, 0, none⟩ k0).setCell ⟨w.heap.size + 1, 1, none⟩ k1).heap[w.heap.size]? = some (.cells #[.int .i64 d, .string t] 67 (0, 0)) := by
      rw [Below.heap_setCell _ _ _ _ (show w.heap.size ≠ w.heap.size + 1 by omega), Below.heap_setCell _ _ _ _ (show w.heap.size ≠ w.heap.size + 1 by omega)]
      exact hX2
    exact ⟨(hbb.setCell (p := ⟨w.heap.size + 1, 0, none⟩) (by show w.heap.size ≤ w.heap.size + 1; omega) k0).setCell (p := ⟨w.heap.size + 1, 1, none⟩) (by show w.heap.size ≤ w.heap.size + 1; omega) k1, by simp [World.setCell, Array.getElem?_modify, hz2], cell_of_row _ w.heap.size 0 _ _ _ hX3, cell_of_row _ w.heap.size 1 _ _ _ hX3⟩
  have hsi : Hid ((Tryz.prog.info? 67).map (·.size) = some 2) := by
    show _ = _
    kernel_rfl
  clear ht
  go_enter Tryz.func63, Tryz.ntmps63
  go_wp2
  go_region_held (fun W : World => W.cell? ⟨w.heap.size, 0, none⟩ = some (.int .i64 d) ∧ W.cell? ⟨w.heap.size, 1, none⟩ = some (.string t)) (first | exact hjs | exact ⟨(hfin.out _ _).2.2.1, (hfin.out _ _).2.2.2⟩ | go_keep) (first | (go_at_call 84; refine (hcon.out _ rfl).mono ?_; rintro e w2 ⟨rfl, hfin, hz, hjs⟩; have k0 : w2.cell? ⟨w.heap.size + 1, 0, none⟩ = some (.int .i64 0) := cell_of_row w2 (w.heap.size + 1) 0 _ _ (0, 0) hz; have k1 : w2.cell? ⟨w.heap.size + 1, 1, none⟩ = some (.string ⟨#[]⟩) := cell_of_row w2 (w.heap.size + 1) 1 _ _ (0, 0) hz; have f0 := Lib.frozen_of_heap hz 0; have f1 := Lib.frozen_of_heap hz 1; clear hz))
  all_goals
    go_wp2
    refine bodyPost_ret (results_cell_row (by rfl) _ _ (w.heap.size + 1) 67 #[.int .i64 d, .string t] (0, 0) _ rfl (hfin.out _ _).2.1 Tryz.underlying67 rfl hsi.out) rfl ?_
    exact ⟨rfl, (hfin.out _ _).1⟩
theorem place1_any (d y : Int) (t : ByteArray) (w : World) :
    Calls Tryz.prog 90 #[.agg #[.int .i64 d, .string t], .int .i64 y] w fun e w' => e = .returned (.int .i64 (cmpI d y)) ∧ Below w.heap.size w w' := by
  have hb := (Below.refl w.heap.size w).alloc (Nat.le_refl _) (.cells #[.int .i64 d, .string t] 67)
  have mn := fun z W => meth_number z W
  go_enter Tryz.func90, Tryz.ntmps90
  go_wp2_with fail
  refine (blNumber_any d t _).mono ?_
  rintro e w8 ⟨rfl, hb8⟩
  have hb9 := hb.trans (hb8.mono hb.size)
  clear hb8 hb
  go_wp2_with fail
  refine (compare_any d y _).mono ?_
  rintro e w7 ⟨rfl, rfl⟩
  go_wp2
  go_ret
  exact ⟨rfl, hb9⟩
end Go.Proofs.YtfoncmeplofedaqGreatDoor

namespace Go.Proofs.YtfoncmeplofedaqGreatDoor
open Go.RowKit
theorem itYN : TyZ Tryz.prog 86 69 itf 5 48 it0 (.agg #[.int .i64 0, .string ⟨#[]⟩, .int .i64 0, .int .i64 0, .bool false]) := ⟨Tryz.underlying86, Tryz.infoIt, by decide, rfl⟩
end Go.Proofs.YtfoncmeplofedaqGreatDoor

namespace Go.Proofs.YtfoncmeplofedaqGreatDoor
open Go.RowKit
set_option linter.unusedVariables false
def wrongI (p : It) : Bool := !isRoundB p.2.2.1 || decide (p.2.2.2.1 < 0) || decide (p.2.2.1 < p.2.2.2.1) || (p.2.2.2.2 && decide (p.2.2.2.1 < p.2.2.1))
theorem wrongI_no {p : It} : wrongI p = false ↔ itemP p := by
  obtain ⟨d, t, s, k, u⟩ := p
  unfold wrongI isRoundB itemP
  cases u
  · simp only [Bool.or_eq_false_iff, decide_eq_false_iff_not, Bool.not_eq_false', decide_eq_true_eq, Bool.false_and]
    constructor
    · rintro ⟨⟨⟨h1, h2⟩, h3⟩, h4⟩
      exact ⟨h1, ⟨by omega, by omega⟩, fun h => by cases h⟩
    · rintro ⟨h1, h2, h3⟩
      exact ⟨⟨⟨h1, by omega⟩, by omega⟩, trivial⟩
  · simp only [Bool.or_eq_false_iff, decide_eq_false_iff_not, Bool.not_eq_false', decide_eq_true_eq, Bool.true_and]
    constructor
    · rintro ⟨⟨⟨h1, h2⟩, h3⟩, h4⟩
      exact ⟨h1, ⟨by omega, by omega⟩, fun _ => by omega⟩
    · rintro ⟨h1, h2, h3⟩
      have := h3 trivial
      exact ⟨⟨⟨h1, by omega⟩, by omega⟩, by omega⟩
set_option maxHeartbeats 1000000 in
theorem wrongI_any (x1 : Int) (x2 : ByteArray) (x3 x4 : Int) (x5 : Bool) (w : World) :
    Calls Tryz.prog 55 #[.agg #[.int .i64 x1, .string x2, .int .i64 x3, .int .i64 x4, .bool x5]] w fun e w' => e = .returned (.bool (wrongI (x1, x2, x3, x4, x5))) ∧ Below w.heap.size w w' := by
  have hb := (Below.refl w.heap.size w).alloc (Nat.le_refl _) (.cells #[.int .i64 x1, .string x2, .int .i64 x3, .int .i64 x4, .bool x5] 69)
  have hcall := Lib.hid (fun W => isRound_any x3 W)
  cases hr : isRoundB x3 with
  | false =>
    have e : wrongI (x1, x2, x3, x4, x5) = true := by unfold wrongI; simp [hr]
    rw [e]
    rw [hr] at hcall
    clear e hr
    go_enter Tryz.func55, Tryz.ntmps55
    go_wp2_with fail
    refine (hcall.out _).mono ?_
    rintro e w2 ⟨rfl, rfl⟩
    go_wp2
    go_ret
    exact ⟨by first | rfl | simp [*], hb⟩
  | true =>
    rw [hr] at hcall
    by_cases h0 : x4 < 0
    · have e : wrongI (x1, x2, x3, x4, x5) = true := by unfold wrongI; simp [h0]
      rw [e]
      clear e hr
      go_enter Tryz.func55, Tryz.ntmps55
      go_wp2_with fail
      refine (hcall.out _).mono ?_
      rintro e w2 ⟨rfl, rfl⟩
      go_wp2
      go_ret
      exact ⟨by first | rfl | simp [*], hb⟩
    · by_cases h1 : x3 < x4
      · have e : wrongI (x1, x2, x3, x4, x5) = true := by unfold wrongI; simp [h1]
        rw [e]
        clear e hr
        go_enter Tryz.func55, Tryz.ntmps55
        go_wp2_with fail
        refine (hcall.out _).mono ?_
        rintro e w2 ⟨rfl, rfl⟩
        go_wp2
        go_ret
        exact ⟨by first | rfl | simp [*], hb⟩
      · cases x5 with
        | false =>
          have e : wrongI (x1, x2, x3, x4, false) = false := by unfold wrongI; simp [hr, h0, h1]
          rw [e]
          clear e hr
          go_enter Tryz.func55, Tryz.ntmps55
          go_wp2_with fail
          refine (hcall.out _).mono ?_
          rintro e w2 ⟨rfl, rfl⟩
          go_wp2
          go_ret
          exact ⟨by first | rfl | simp [*], hb⟩
        | true =>
          by_cases h2 : x4 < x3
          · have e : wrongI (x1, x2, x3, x4, true) = true := by unfold wrongI; simp [h2]
            rw [e]
            clear e hr
            go_enter Tryz.func55, Tryz.ntmps55
            go_wp2_with fail
            refine (hcall.out _).mono ?_
            rintro e w2 ⟨rfl, rfl⟩
            go_wp2
            go_ret
            exact ⟨by first | rfl | simp [*], hb⟩
          · have e : wrongI (x1, x2, x3, x4, true) = false := by unfold wrongI; simp [hr, h0, h1, h2]
            rw [e]
            clear e hr
            go_enter Tryz.func55, Tryz.ntmps55
            go_wp2_with fail
            refine (hcall.out _).mono ?_
            rintro e w2 ⟨rfl, rfl⟩
            go_wp2
            go_ret
            exact ⟨by first | rfl | simp [*], hb⟩
theorem meth_numberIt (x : Array Value) (w : World) : (method 291 69 (.agg x) "loop.example/g00260/impl.number").run Tryz.prog w = .ok (70, .agg x) w := by kernel_rfl
theorem numberIt_any (x1 : Int) (x2 : ByteArray) (x3 x4 : Int) (x5 : Bool) (w : World) :
    Calls Tryz.prog 70 #[.agg #[.int .i64 x1, .string x2, .int .i64 x3, .int .i64 x4, .bool x5]] w fun e w' => e = .returned (.int .i64 x1) ∧ Below w.heap.size w w' := by
  have hb := (Below.refl w.heap.size w).alloc (Nat.le_refl _) (.cells #[.int .i64 x1, .string x2, .int .i64 x3, .int .i64 x4, .bool x5] 69)
  go_enter Tryz.func70, Tryz.ntmps70
  go_wp2_with fail
  refine (blNumber_any x1 x2 _).mono ?_
  rintro e w2 ⟨rfl, hb2⟩
  have hB := hb.trans (hb2.mono hb.size)
  clear hb hb2
  go_wp2
  go_ret
  exact ⟨rfl, hB⟩
theorem meth_ownIt (x : Array Value) (w : World) : (method 291 69 (.agg x) "loop.example/g00260/impl.own").run Tryz.prog w = .ok (112, .agg x) w := by kernel_rfl
set_option maxHeartbeats 2000000 in
set_option maxRecDepth 100000 in
theorem ownIt_any (x1 : Int) (x2 : ByteArray) (x3 x4 : Int) (x5 : Bool) (w : World) (hx : x2.size ≤ 1048576) :
    Calls Tryz.prog 112 #[.agg #[.int .i64 x1, .string x2, .int .i64 x3, .int .i64 x4, .bool x5]] w fun e w' => e = .returned (.agg #[.int .i64 x1, .string x2, .int .i64 x3, .int .i64 x4, .bool x5]) ∧ Below w.heap.size w w' := by
  have hcon : Hid (∀ W, W = (w.alloc (.cells #[.int .i64 x1, .string x2, .int .i64 x3, .int .i64 x4, .bool x5] 69)).alloc (.cells #[.int .i64 0, .string ⟨#[]⟩, .int .i64 0, .int .i64 0, .bool false] 69) →
      Calls Tryz.prog 63 #[.agg #[.int .i64 x1, .string x2]] W fun e w' => e = .returned (.agg #[.int .i64 x1, .string x2]) ∧ Hid (∀ a0 a1 k0 k1 k2 k3 k4 W2, W2 = (((((((w'.setCell ⟨w.heap.size, 0, none⟩ a0).setCell ⟨w.heap.size, 1, none⟩ a1).setCell ⟨w.heap.size + 1, 0, none⟩ k0).setCell ⟨w.heap.size + 1, 1, none⟩ k1).setCell ⟨w.heap.size + 1, 2, none⟩ k2).setCell ⟨w.heap.size + 1, 3, none⟩ k3).setCell ⟨w.heap.size + 1, 4, none⟩ k4) → Below w.heap.size w W2 ∧ W2.heap[w.heap.size + 1]? = some (.cells #[k0, k1, k2, k3, k4] 69 (0, 0))) ∧ w'.heap[w.heap.size + 1]? = some (.cells #[.int .i64 0, .string ⟨#[]⟩, .int .i64 0, .int .i64 0, .bool false] 69 (0, 0)) ∧ w'.heap[w.heap.size]? = some (.cells #[.int .i64 x1, .string x2, .int .i64 x3, .int .i64 x4, .bool x5] 69 (0, 0))) := by
    intro W hW
    have hbW : Below w.heap.size w W := by
      rw [hW]
      exact ((Below.refl _ w).alloc (Nat.le_refl _) _).alloc (by rw [alloc_sizeI]; omega) _
    have hsW : W.heap.size = w.heap.size + 1 + 1 := by rw [hW, alloc_sizeI, alloc_sizeI]
    have hY : W.heap[w.heap.size + 1]? = some (.cells #[.int .i64 0, .string ⟨#[]⟩, .int .i64 0, .int .i64 0, .bool false] 69 (0, 0)) := by
      rw [hW]
      have e := heap_alloc_new (w.alloc (.cells #[.int .i64 x1, .string x2, .int .i64 x3, .int .i64 x4, .bool x5] 69)) (.cells #[.int .i64 0, .string ⟨#[]⟩, .int .i64 0, .int .i64 0, .bool false] 69)
      rw [alloc_sizeI] at e
      exact e
    have hX : W.heap[w.heap.size]? = some (.cells #[.int .i64 x1, .string x2, .int .i64 x3, .int .i64 x4, .bool x5] 69 (0, 0)) := by
      rw [hW]
      exact (Below.heap_alloc _ _ _ (by rw [alloc_sizeI]; omega)).trans (heap_alloc_new w _)
    refine (blOwn_any x1 x2 W (by omega)).mono ?_
    rintro e w' ⟨rfl, hb⟩
    have hY2 := (hb.block (w.heap.size + 1) (by omega)).trans hY
    have hX2 := (hb.block w.heap.size (by omega)).trans hX
    have hbb : Below w.heap.size w w' := hbW.trans (hb.mono (by omega))
    refine ⟨rfl, fun a0 a1 k0 k1 k2 k3 k4 W2 hW2 => ?_, hY2, hX2⟩
    subst hW2
    have q1 : w.heap.size ≤ w.heap.size + 1 := by omega
    exact ⟨(((((((hbb.setCell (p := ⟨w.heap.size, 0, none⟩) (Nat.le_refl _) a0).setCell (p := ⟨w.heap.size, 1, none⟩) (Nat.le_refl _) a1).setCell (p := ⟨w.heap.size + 1, 0, none⟩) q1 k0).setCell (p := ⟨w.heap.size + 1, 1, none⟩) q1 k1).setCell (p := ⟨w.heap.size + 1, 2, none⟩) q1 k2).setCell (p := ⟨w.heap.size + 1, 3, none⟩) q1 k3).setCell (p := ⟨w.heap.size + 1, 4, none⟩) q1 k4), by simp [World.setCell, Array.getElem?_modify, hY2]⟩
  have hsi : Hid ((Tryz.prog.info? 69).map (·.size) = some 5) := by
    show _ = _
    kernel_rfl
  clear hx
  go_enter Tryz.func112, Tryz.ntmps112
  go_wp2_with fail
  refine (hcon.out _ rfl).mono ?_
  rintro e w1 ⟨rfl, hfin, hy, hx⟩
  have c0 := cell_of_row w1 w.heap.size 0 _ _ (0, 0) hx
  have f0 := Lib.frozen_of_heap hx 0
  have y0 := cell_of_row w1 (w.heap.size + 1) 0 _ _ (0, 0) hy
  have g0 := Lib.frozen_of_heap hy 0
  have c1 := cell_of_row w1 w.heap.size 1 _ _ (0, 0) hx
  have f1 := Lib.frozen_of_heap hx 1
  have y1 := cell_of_row w1 (w.heap.size + 1) 1 _ _ (0, 0) hy
  have g1 := Lib.frozen_of_heap hy 1
  have c2 := cell_of_row w1 w.heap.size 2 _ _ (0, 0) hx
  have f2 := Lib.frozen_of_heap hx 2
  have y2 := cell_of_row w1 (w.heap.size + 1) 2 _ _ (0, 0) hy
  have g2 := Lib.frozen_of_heap hy 2
  have c3 := cell_of_row w1 w.heap.size 3 _ _ (0, 0) hx
  have f3 := Lib.frozen_of_heap hx 3
  have y3 := cell_of_row w1 (w.heap.size + 1) 3 _ _ (0, 0) hy
  have g3 := Lib.frozen_of_heap hy 3
  have c4 := cell_of_row w1 w.heap.size 4 _ _ (0, 0) hx
  have f4 := Lib.frozen_of_heap hx 4
  have y4 := cell_of_row w1 (w.heap.size + 1) 4 _ _ (0, 0) hy
  have g4 := Lib.frozen_of_heap hy 4
  clear hy hx hcon
  go_wp2
  refine bodyPost_ret (results_cell_row (by rfl) _ _ (w.heap.size + 1) 69 #[.int .i64 x1, .string x2, .int .i64 x3, .int .i64 x4, .bool x5] (0, 0) _ rfl (hfin.out _ _ _ _ _ _ _ _ rfl).2 Tryz.underlying69 rfl hsi.out) rfl ?_
  exact ⟨rfl, (hfin.out _ _ _ _ _ _ _ _ rfl).1⟩
theorem shItems_any (r : Int) (va : Value) (w : World) :
    Calls Tryz.prog 41 #[.agg #[.int .i64 r, va]] w fun e w' => e = .returned va ∧ Below w.heap.size w w' := by
  have hb := (Below.refl w.heap.size w).alloc (Nat.le_refl _) (.cells #[.int .i64 r, va] 26)
  go_enter Tryz.func41, Tryz.ntmps41
  go_wp2
  go_ret
  exact ⟨rfl, hb⟩
end Go.Proofs.YtfoncmeplofedaqGreatDoor

namespace Go.Proofs.YtfoncmeplofedaqGreatDoor
open Go.RowKit
set_option linter.unusedVariables false
def raiseP (st : Int) (p : It) : It := (p.1, p.2.1, (if p.2.2.1 < st then st else p.2.2.1), p.2.2.2.1, p.2.2.2.2 && decide ((if p.2.2.1 < st then st else p.2.2.1) = p.2.2.2.1))
theorem raise_more {st : Int} {p : It} (h : itemP p) : raiseP st p = moreP st p := by
  obtain ⟨d, t, s, k, u⟩ := p
  obtain ⟨⟨a1, a2⟩, ⟨b1, b2⟩, c⟩ := h
  unfold raiseP moreP
  cases u with
  | false => simp
  | true =>
    have hk : k = s := c rfl
    simp only [Prod.mk.injEq, true_and, Bool.true_and]
    by_cases h : s < st
    · rw [if_pos h, decide_eq_false (by omega), decide_eq_true (by omega)]; rfl
    · rw [if_neg h, decide_eq_true (by omega), decide_eq_false (by omega)]; rfl
theorem raise_new (d : Int) (t : ByteArray) {st : Int} (h : 0 ≤ st) : raiseP st (d, t, 0, 0, false) = (d, t, st, 0, false) := by
  unfold raiseP
  by_cases h0 : 0 < st
  · simp [h0]
  · have : st = 0 := by omega
    subst this; simp
set_option maxHeartbeats 4000000 in
set_option maxRecDepth 100000 in
theorem raise_any (B g cap k : Nat) (l : List It) (st : Int) (w : World) (ho : OwnI w B (.slice (some ⟨g, 0, none⟩) l.length cap) l) (hk : k < l.length) :
    Calls Tryz.prog 64 #[.pointer (some ⟨g, k * 5, none⟩), .int .i64 st] w fun e w' => e = .returned (.tuple #[]) ∧ OwnI w' B (.slice (some ⟨g, 0, none⟩) l.length cap) (l.set k (raiseP st (l.getD k it0))) ∧ w.grownBy w' (some g) := by
  have ho1 : w.ownsRow B 69 5 (.slice (some ⟨g, 0, none⟩) l.length cap) l.length (rowC itf l) := ho
  obtain ⟨d0, d1, d2, d3, d4⟩ := it_cells0 (cellsG_own itW ho) hk
  have hlc : (rowC itf l).length = l.length * 5 := rowC_len itW l
  have z2 := ho1.frozenAt (k * 5 + 2)
  have z4 := ho1.frozenAt (k * 5 + 4)
  have HFI : Hid (∀ (s2 : Int) (u2 : Bool), (((rowC itf l).set (k * 5 + 2) (.int .i64 s2)).set (k * 5 + 4) (.bool u2)) = rowC itf (l.set k ((l.getD k it0).1, (l.getD k it0).2.1, s2, (l.getD k it0).2.2.2.1, u2))) := fun s2 u2 => by
    rw [it_set3 l k hk, it_set5 _ k (by rw [List.length_set]; exact hk), List.set_set]
    congr 1
    have e9 : (l.set k ((l.getD k it0).1, (l.getD k it0).2.1, s2, (l.getD k it0).2.2.2)).getD k it0 = ((l.getD k it0).1, (l.getD k it0).2.1, s2, (l.getD k it0).2.2.2) := by
      simp only [List.getD]
      rw [List.getElem?_set_self hk]
      rfl
    rw [e9]
  have HLN : Hid (∀ p : It, (l.set k p).length = l.length) := fun p => List.length_set ..
  obtain ⟨x, hx⟩ : ∃ x, x = l.getD k it0 := ⟨_, rfl⟩
  rw [← hx] at d0 d1 d2 d3 d4 HFI ⊢
  obtain ⟨x1, x2, x3, x4, x5⟩ := x
  simp only at d0 d1 d2 d3 d4 HFI
  clear hx
  obtain ⟨M, hM⟩ : ∃ M, M = if x3 < st then st else x3 := ⟨_, rfl⟩
  have hst1 := fun u : Bool => (ho1.stored (k * 5 + 2) (.int .i64 M)).1.stored (k * 5 + 4) (.bool u)
  have HO : Hid (∀ u, u = (x5 && decide (M = x4)) → OwnI ((w.setCell ⟨g, k * 5 + 2, none⟩ (.int .i64 M)).setCell ⟨g, k * 5 + 4, none⟩ (.bool u)) B (.slice (some ⟨g, 0, none⟩) l.length cap) (l.set k (raiseP st (x1, x2, x3, x4, x5)))) := fun u hu => by
    have h9 := (hst1 u).1
    rw [HFI.out M u] at h9
    have e : raiseP st (x1, x2, x3, x4, x5) = (x1, x2, M, x4, u) := by unfold raiseP; rw [hu, hM]
    rw [e]
    show World.ownsRow _ _ _ _ _ _ _
    rw [HLN.out]
    exact h9
  have HG : Hid (∀ u, w.grownBy ((w.setCell ⟨g, k * 5 + 2, none⟩ (.int .i64 M)).setCell ⟨g, k * 5 + 4, none⟩ (.bool u)) (some g)) := fun u => grown_trans (ho1.stored (k * 5 + 2) (.int .i64 M)).2 (hst1 u).2
  have hmx : max x3 st = M := by rw [hM]; by_cases h : x3 < st <;> simp [h] <;> omega
  have y2 : ∀ v : Value, (w.setCell ⟨g, k * 5 + 2, none⟩ v).cell? ⟨g, k * 5 + 3, none⟩ = some (.int .i64 x4) := fun v => (World.cell?_setCell_other w ⟨g, k * 5 + 2, none⟩ ⟨g, k * 5 + 3, none⟩ _ (by intro e; have := congrArg Addr.off e; simp at this)).trans d3
  have y4 : ∀ v : Value, (w.setCell ⟨g, k * 5 + 2, none⟩ v).cell? ⟨g, k * 5 + 4, none⟩ = some (.bool x5) := fun v => (World.cell?_setCell_other w ⟨g, k * 5 + 2, none⟩ ⟨g, k * 5 + 4, none⟩ _ (by intro e; have := congrArg Addr.off e; simp at this)).trans d4
  clear ho ho1 hlc HFI HLN hst1 hM
  cases x5 with
  | false =>
    go_enter Tryz.func64, Tryz.ntmps64
    go_wp2_with fail
    go_region
    all_goals
      go_wp2
      (try simp only [Exit.inBlock, Exit.then]); refine bodyPost_end (results_none rfl _ _ _) rfl ?_
      exact ⟨rfl, HO.out _ (by simp), grown_drew (HG.out _)⟩
  | true =>
    go_enter Tryz.func64, Tryz.ntmps64
    go_wp2_with fail
    go_region
    all_goals
      go_wp2
      (try simp only [Exit.inBlock, Exit.then]); refine bodyPost_end (results_none rfl _ _ _) rfl ?_
      exact ⟨rfl, HO.out _ (by simp [BEq.beq]), grown_drew (HG.out _)⟩
end Go.Proofs.YtfoncmeplofedaqGreatDoor

namespace Go.Proofs.YtfoncmeplofedaqGreatDoor
open Go.RowKit
theorem itLY : TyZ Tryz.prog 24 69 itf 5 48 it0 (.agg #[.int .i64 0, .string ⟨#[]⟩, .int .i64 0, .int .i64 0, .bool false]) := ⟨Tryz.underlying24, Tryz.infoIt, by decide, rfl⟩
end Go.Proofs.YtfoncmeplofedaqGreatDoor

namespace Go.Proofs.YtfoncmeplofedaqGreatDoor
open Go.RowKit
set_option linter.unusedVariables false
theorem place1It_any (x1 : Int) (x2 : ByteArray) (x3 : Int) (x4 : Int) (x5 : Bool) (y : Int) (w : World) :
    Calls Tryz.prog 80 #[.agg #[.int .i64 x1, .string x2, .int .i64 x3, .int .i64 x4, .bool x5], .int .i64 y] w fun e w' => e = .returned (.int .i64 (cmpI x1 y)) ∧ Below w.heap.size w w' := by
  have hb := (Below.refl w.heap.size w).alloc (Nat.le_refl _) (.cells #[.int .i64 x1, .string x2, .int .i64 x3, .int .i64 x4, .bool x5] 69)
  have mn := fun z W => meth_numberIt z W
  go_enter Tryz.func80, Tryz.ntmps80
  go_wp2_with fail
  refine (numberIt_any x1 x2 x3 x4 x5 _).mono ?_
  rintro e w8 ⟨rfl, hb8⟩
  have hb9 := hb.trans (hb8.mono hb.size)
  clear hb8 hb
  go_wp2_with fail
  refine (compare_any x1 y _).mono ?_
  rintro e w7 ⟨rfl, rfl⟩
  go_wp2
  go_ret
  exact ⟨rfl, hb9⟩
end Go.Proofs.YtfoncmeplofedaqGreatDoor

namespace Go.Proofs.YtfoncmeplofedaqGreatDoor
open Go.RowKit
set_option linter.unusedVariables false
set_option maxHeartbeats 2000000 in
set_option maxRecDepth 100000 in
theorem searchIt_any (va : Value) (l : List It) (d : Int) (w : World) (ha : RdG itf 5 w va l) (hl : l.length ≤ 1048576) (hr : RiseN (fun j => (l.getD j it0).1) l.length) :
    Calls Tryz.prog 79 #[va, .int .i64 d, .func (.func 80) #[] #[]] w fun e w' => ∃ (k : Nat) (fd : Bool), e = .returned (.tuple #[.int .i64 (k : Int), .bool fd]) ∧ PlcN (fun j => (l.getD j it0).1) l.length d k fd ∧ Below w.heap.size w w' := by
  rcases rdG_cases ha with ⟨h0, ao, cap, rfl⟩ | ⟨hp, b, off, cap, rfl, _, hlt, hc⟩
  · subst h0
    clear ha hr
    go_enter Tryz.func79, Tryz.ntmps79
    go_wp2
    refine wp_loop_rounds 1 ?_
    rw [rounds_succ]
    go_wp2
    go_ret2
    exact ⟨0, false, rfl, ⟨Nat.le_refl _, fun j h => absurd h (Nat.not_lt_zero _), fun j _ h => absurd h (Nat.not_lt_zero _), rfl⟩, Below.refl _ _⟩
  have HA : Hid (CellsG itf 5 b off l w) := hc
  have HR : Hid (∀ a b, a ≤ b → b < l.length → (l.getD a it0).1 ≤ (l.getD b it0).1) := fun a b h1 h2 => riseN_le hr h1 h2
  obtain ⟨n, hn⟩ : ∃ n, n = l.length := ⟨_, rfl⟩
  rw [← hn] at hp hl HR ⊢
  have HN : Hid (n = l.length) := hn
  clear hc ha hn hr
  go_enter Tryz.func79, Tryz.ntmps79
  go_wp2
  go_loopg [9, 10] n (fun kx s9 s10 wr => ∃ lo hi : Nat, s9 = .int .i64 lo ∧ s10 = .int .i64 hi ∧ lo ≤ hi ∧ hi ≤ n ∧ hi - lo ≤ kx ∧ Hid (Below w.heap.size w wr) ∧ Hid ((∀ j, j < lo → (l.getD j it0).1 < d) ∧ (∀ j, hi ≤ j → j < n → d ≤ (l.getD j it0).1)))
  case atStart => exact ⟨0, n, rfl, rfl, Nat.zero_le _, Nat.le_refl _, by omega, Below.refl _ _, ⟨fun j h => absurd h (Nat.not_lt_zero _), fun j h1 h2 => by omega⟩⟩
  case round =>
    obtain ⟨lo, hi, rfl, rfl, hlh, hin, hg, hb, I⟩ := hrel
    by_cases hltk : lo < hi
    · obtain ⟨m, hm⟩ : ∃ m, m = (lo + hi) / 2 := ⟨_, rfl⟩
      have hs1 := hb.out.size
      have hml : m < l.length := by have := HN.out; omega
      obtain ⟨d0, d1, d2, d3, d4⟩ := it_cells (cellsG_below HA.out hlt hb.out) hml
      have hnew : Hid ((cmpI (l.getD m it0).1 d < 0 → (∀ j, j < m + 1 → (l.getD j it0).1 < d)) ∧ (¬ cmpI (l.getD m it0).1 d < 0 → (∀ j, m ≤ j → j < n → d ≤ (l.getD j it0).1))) := ⟨fun h j hj => by
        have h1 := HR.out j m (by omega) (by omega)
        have h2 := cmpI_neg.1 h
        omega, fun h j hj hjn => by
        have h1 := HR.out m j hj hjn
        have h2 : ¬ (l.getD m it0).1 < d := fun g => h (cmpI_neg.2 g)
        omega⟩
      obtain ⟨x, hx⟩ : ∃ x, x = l.getD m it0 := ⟨_, rfl⟩
      rw [← hx] at d0 d1 d2 d3 d4 hnew
      obtain ⟨x1, x2, x3, x4, x5⟩ := x
      simp only at d0 d1 d2 d3 d4 hnew
      clear hx hml
      have hcall := fun W => place1It_any x1 x2 x3 x4 x5 d W
      subst hm
      by_cases hneg : cmpI x1 d < 0
      · go_wp2_with fail
        refine (hcall _).mono ?_
        rintro e w2 ⟨rfl, hb2⟩
        have HB2 := Lib.hid (hb.out.trans (hb2.mono hs1))
        have I2 := Lib.hid (And.intro (hnew.out.1 hneg) I.out.2)
        clear hcall hb2 hnew
        go_wp2
        go_roundg (hi - ((lo + hi) / 2 + 1))
        case measure => omega
        case rel => exact ⟨(lo + hi) / 2 + 1, hi, by rw [show ((lo : Int) + (hi : Int)) / 2 + 1 = (((lo + hi) / 2 + 1 : Nat) : Int) by omega], rfl, by omega, hin, Nat.le_refl _, HB2, I2⟩
      · go_wp2_with fail
        refine (hcall _).mono ?_
        rintro e w2 ⟨rfl, hb2⟩
        have HB2 := Lib.hid (hb.out.trans (hb2.mono hs1))
        have I2 := Lib.hid (And.intro I.out.1 (hnew.out.2 hneg))
        clear hcall hb2 hnew
        go_wp2
        go_roundg ((lo + hi) / 2 - lo)
        case measure => omega
        case rel => exact ⟨lo, (lo + hi) / 2, rfl, by rw [show ((lo : Int) + (hi : Int)) / 2 = (((lo + hi) / 2 : Nat) : Int) by omega], by omega, by omega, Nat.le_refl _, HB2, I2⟩
    · obtain rfl : hi = lo := by omega
      have hs1 := hb.out.size
      by_cases hln : hi < n
      · have hml : hi < l.length := by have := HN.out; omega
        obtain ⟨d0, d1, d2, d3, d4⟩ := it_cells (cellsG_below HA.out hlt hb.out) hml
        have hfin : Hid (∀ fd, fd = decide ((l.getD hi it0).1 = d) → PlcN (fun j => (l.getD j it0).1) n d hi fd) := fun fd hfd => by
          have hx := HN.out
          exact ⟨by omega, I.out.1, fun j h1 h2 => I.out.2 j h1 (by omega), by rw [hfd, decide_eq_true hln, Bool.true_and]⟩
        obtain ⟨x, hx⟩ : ∃ x, x = l.getD hi it0 := ⟨_, rfl⟩
        rw [← hx] at d0 d1 d2 d3 d4 hfin
        obtain ⟨x1, x2, x3, x4, x5⟩ := x
        simp only at d0 d1 d2 d3 d4 hfin
        clear hx hml
        have hcall := fun W => place1It_any x1 x2 x3 x4 x5 d W
        obtain ⟨c, hc⟩ : ∃ c, c = cmpI x1 d := ⟨_, rfl⟩
        have hcz : (c = 0) = (x1 = d) := by rw [hc]; exact propext cmpI_zero
        rw [← hc] at hcall
        clear hc
        go_wp2_with fail
        refine (hcall _).mono ?_
        rintro e w2 ⟨rfl, hb2⟩
        have HB2 := Lib.hid (hb.out.trans (hb2.mono hs1))
        clear hcall hb2
        go_wp2
        go_ret2
        exact ⟨hi, decide (c = 0), rfl, hfin.out _ (by rw [decide_eq_decide]; rw [hcz]), HB2.out⟩
      · have hfin : Hid (PlcN (fun j => (l.getD j it0).1) n d hi false) := by
          have hx := HN.out
          exact ⟨by omega, I.out.1, fun j h1 h2 => by omega, by rw [decide_eq_false (by omega), Bool.false_and]⟩
        go_wp2
        go_ret2
        exact ⟨hi, false, rfl, hfin.out, hb.out⟩
theorem placeIt_any (va : Value) (l : List It) (d : Int) (w : World) (ha : RdG itf 5 w va l) (hl : l.length ≤ 1048576) (hr : RiseN (fun j => (l.getD j it0).1) l.length) :
    Calls Tryz.prog 61 #[va, .int .i64 d] w fun e w' => ∃ (k : Nat) (fd : Bool), e = .returned (.tuple #[.int .i64 (k : Int), .bool fd]) ∧ PlcN (fun j => (l.getD j it0).1) l.length d k fd ∧ Below w.heap.size w w' := by
  have hcall := searchIt_any va l d w ha hl hr
  obtain ⟨ao, cap, rfl⟩ := rdG_shape ha
  clear ha hr
  go_enter Tryz.func61, Tryz.ntmps61
  go_wp2_with fail
  refine hcall.mono ?_
  rintro e w2 ⟨k, fd, rfl, h, hb2⟩
  clear hcall
  go_wp2
  go_ret2
  exact ⟨k, fd, rfl, h, hb2⟩
end Go.Proofs.YtfoncmeplofedaqGreatDoor

namespace Go.Proofs.YtfoncmeplofedaqGreatDoor
open Go.RowKit
set_option linter.unusedVariables false
theorem copiedIt {xs : List It} {n k : Nat} (h : k < xs.length) (hn : k < n) (z : It) : (xs.take k ++ List.replicate (n - k) z).set k (xs.getD k it0) = xs.take (k + 1) ++ List.replicate (n - (k + 1)) z := by
  have e1 : n - k = (n - (k + 1)) + 1 := by omega
  have e2 : (xs.take k).length = k := by rw [List.length_take]; omega
  rw [e1, List.replicate_succ, List.set_append_right _ _ (by omega), e2, Nat.sub_self, List.set_cons_zero, List.take_succ_eq_append_getElem h, List.append_assoc]
  simp [List.getD, h]
set_option maxHeartbeats 2000000 in
set_option maxRecDepth 100000 in
theorem ownNIt_any (va : Value) (xs : List It) (w : World) (ha : RdG itf 5 w va xs) (hl : xs.length ≤ 1048576) (hs : ∀ p ∈ xs, p.2.1.size ≤ 1048576) :
    Calls Tryz.prog 42 #[va] w fun e w' => ∃ g, e = .returned (.slice (some ⟨g, 0, none⟩) xs.length xs.length) ∧ OwnG itf 5 69 w' w.heap.size (.slice (some ⟨g, 0, none⟩) xs.length xs.length) xs ∧ Below w.heap.size w w' := by
  obtain ⟨i0, hi, hz0, hz1, hz2⟩ := info_parts (itYN).inf
  rcases rdG_cases ha with ⟨h0, ao, cap, rfl⟩ | ⟨hp, b, off, cap, rfl, _, hlt, hc⟩
  · subst h0
    clear ha
    go_enter Tryz.func42, Tryz.ntmps42
    go_wp2_with (at_make; refine wpList_make_full _ rfl _ _ 86 rfl w.heap.size 69 i0 (.agg #[.int .i64 0, .string ⟨#[]⟩, .int .i64 0, .int .i64 0, .bool false]) 5 (itYN).und hi hz0 hz1 _ _ _ _ 0 rfl rfl (by omega) (by omega) (by omega) (by decide) ?c0 ?_)
    case c0 => exact Nat.le_refl _
    intro w0 hmade hg0
    have hb0 : Below w.heap.size w w0 := (Below.refl _ _).grown hg0 (Nat.le_refl _) (fun k hk => by cases hk)
    have hmade2 : w0.ownsRow w.heap.size 69 5 (.slice (some ⟨w.heap.size, 0, none⟩) 0 0) 0 (rowC itf []) := by
      have h := hmade
      simpa [madeCells, rowC] using h
    clear hg0 hmade
    go_wp2
    refine wp_loop_rounds 1 ?_
    rw [rounds_succ]
    go_wp2
    go_ret
    exact ⟨_, rfl, hmade2, hb0⟩
  · obtain ⟨n, hn⟩ : ∃ n, n = xs.length := ⟨_, rfl⟩
    have HA := Lib.hid hc
    have HSD : Hid (∀ i, i < xs.length → (fun p : It => p.2.1.size ≤ 1048576) (xs.getD i it0)) := fun i hi => by
      rw [getD_it hi]
      exact hs _ (List.getElem_mem hi)
    clear hs
    have HO9 : Hid (∀ (v : Value) (w9 : World), w9.ownsRow w.heap.size 69 5 v n (rowC itf xs) → OwnG itf 5 69 w9 w.heap.size v xs) := fun v w9 h => by rw [OwnG, ← hn]; exact h
    rw [← hn] at hp hl ⊢
    have HN : Hid (n = xs.length) := hn
    have mo := fun z W => meth_ownIt z W
    clear hc ha hn
    go_enter Tryz.func42, Tryz.ntmps42
    go_wp2_with (at_make; refine wpList_make_full _ rfl _ _ 86 rfl w.heap.size 69 i0 (.agg #[.int .i64 0, .string ⟨#[]⟩, .int .i64 0, .int .i64 0, .bool false]) 5 (itYN).und hi hz0 hz1 _ _ _ _ n rfl rfl rfl rfl (by rw [hz2]; omega) (by unfold maxLen; omega) ?c1 ?_)
    try case c1 => exact Nat.le_refl _
    intro w0 hmade hg0
    have hb0 : Below w.heap.size w w0 := (Below.refl _ _).grown hg0 (Nat.le_refl _) (fun k hk => by cases hk)
    have hm2 : w0.ownsRow w.heap.size 69 5 (.slice (some ⟨w.heap.size, 0, none⟩) n n) n (rowC itf (xs.take 0 ++ List.replicate (n - 0) it0)) := by
      have h := hmade
      have e9 := made_G itW (itYN).zero n
      first | rw [e9] at h | (simp only [Value.cells] at e9; rw [e9] at h)
      simpa using h
    clear hg0 hmade
    go_wp2
    go_loopw [11] (fun i wr => ∃ k : Nat, k ≤ n ∧ i = .int .i64 k ∧ wr.ownsRow w.heap.size 69 5 (.slice (some ⟨w.heap.size, 0, none⟩) n n) n (rowC itf (xs.take k ++ List.replicate (n - k) it0)) ∧ Hid (Below w.heap.size w wr)) (fun i _ => n - (intOf i).toNat)
    case atStart => exact ⟨0, Nat.zero_le _, rfl, hm2, hb0⟩
    case round =>
      rename World => w1
      obtain ⟨k, hk, rfl, ho, hb⟩ := hrel
      clear hb0 hm2
      have hs1 := hb.out.size
      by_cases hltk : k < n
      · have hkx : k < xs.length := by have := HN.out; omega
        obtain ⟨d0, d1, d2, d3, d4⟩ := it_cells (cellsG_below HA.out hlt hb.out) hkx
        have hll : (xs.take k ++ List.replicate (n - k) it0).length = n := by rw [List.length_append, List.length_take, List.length_replicate]; omega
        have hlc : (rowC itf (xs.take k ++ List.replicate (n - k) it0)).length = n * 5 := by rw [rowC_len itW, hll]
        have hset := it_set (xs.take k ++ List.replicate (n - k) it0) k (xs.getD k it0) (by omega)
        rw [copiedIt hkx hltk it0] at hset
        have hsd := HSD.out k hkx
        obtain ⟨x, hxx⟩ : ∃ x, x = xs.getD k it0 := ⟨_, rfl⟩
        rw [← hxx] at d0 d1 d2 d3 d4 hset hsd
        obtain ⟨x1, x2, x3, x4, x5⟩ := x
        simp only at d0 d1 d2 d3 d4 hset hsd
        have HSET := Lib.hid hset
        clear hxx hset
        have hcall := Lib.hid (fun W => ownIt_any x1 x2 x3 x4 x5 W hsd)
        go_wp2_with fail
        refine (hcall.out _).mono ?_
        rintro e w2 ⟨rfl, hb2⟩
        have hb3 : Below w1.heap.size w1 w2 := by
          have h : Below w1.heap.size w1 (w1.alloc (.cells #[.int .i64 x1, .string x2, .int .i64 x3, .int .i64 x4, .bool x5] 69)) := (Below.refl _ _).alloc (Nat.le_refl _) _
          exact h.trans (hb2.mono h.size)
        have ho2 := owns_below ho hb3
        have HB2 := Lib.hid (hb.out.trans (hb3.mono hs1))
        have f0 := ho2.cellAt (k * 5) (by omega)
        have f1 := ho2.cellAt (k * 5 + 1) (by omega)
        have f2 := ho2.cellAt (k * 5 + 2) (by omega)
        have f3 := ho2.cellAt (k * 5 + 3) (by omega)
        have f4 := ho2.cellAt (k * 5 + 4) (by omega)
        have z0 := ho2.frozenAt (k * 5)
        have z1 := ho2.frozenAt (k * 5 + 1)
        have z2 := ho2.frozenAt (k * 5 + 2)
        have z3 := ho2.frozenAt (k * 5 + 3)
        have z4 := ho2.frozenAt (k * 5 + 4)
        obtain ⟨u0, hu0⟩ : ∃ u0, (rowC itf (xs.take k ++ List.replicate (n - k) it0))[k * 5]? = some u0 := ⟨_, List.getElem?_eq_getElem (by omega)⟩
        rw [hu0] at f0
        obtain ⟨u1, hu1⟩ : ∃ u1, (rowC itf (xs.take k ++ List.replicate (n - k) it0))[k * 5 + 1]? = some u1 := ⟨_, List.getElem?_eq_getElem (by omega)⟩
        rw [hu1] at f1
        obtain ⟨u2, hu2⟩ : ∃ u2, (rowC itf (xs.take k ++ List.replicate (n - k) it0))[k * 5 + 2]? = some u2 := ⟨_, List.getElem?_eq_getElem (by omega)⟩
        rw [hu2] at f2
        obtain ⟨u3, hu3⟩ : ∃ u3, (rowC itf (xs.take k ++ List.replicate (n - k) it0))[k * 5 + 3]? = some u3 := ⟨_, List.getElem?_eq_getElem (by omega)⟩
        rw [hu3] at f3
        obtain ⟨u4, hu4⟩ : ∃ u4, (rowC itf (xs.take k ++ List.replicate (n - k) it0))[k * 5 + 4]? = some u4 := ⟨_, List.getElem?_eq_getElem (by omega)⟩
        rw [hu4] at f4
        have hst1 := ho2.stored (k * 5) (.int .i64 x1)
        have hst2 := hst1.1.stored (k * 5 + 1) (.string x2)
        have hst3 := hst2.1.stored (k * 5 + 2) (.int .i64 x3)
        have hst4 := hst3.1.stored (k * 5 + 3) (.int .i64 x4)
        have hst5 := hst4.1.stored (k * 5 + 4) (.bool x5)
        rw [HSET.out] at hst5
        have HO := Lib.hid hst5.1
        have HG := Lib.hid (grown_trans (grown_trans (grown_trans (grown_trans hst1.2 hst2.2) hst3.2) hst4.2) hst5.2)
        clear hcall hb2 hb3 ho ho2 hst1 hst2 hst3 hst4 hst5 hu0 hu1 hu2 hu3 hu4 hll hlc hb d0 d1 d2 d3 d4
        go_wp2
        go_roundw
        case rel => exact ⟨k + 1, by omega, by go_num, HO.out, HB2.out.grown HG.out HB2.out.size (fun g h => by cases h; exact Nat.le_refl _)⟩
        case measure => simp [intOf]; omega
      · obtain rfl : k = n := by omega
        have hx := HN.out
        rw [List.take_of_length_le (by omega), Nat.sub_self, List.replicate_zero, List.append_nil] at ho
        have HO := Lib.hid (HO9.out _ _ ho)
        clear hx ho
        go_wp2
        go_ret
        exact ⟨_, rfl, by rw [HN.out]; have := HO.out; rwa [HN.out] at this, hb.out⟩
end Go.Proofs.YtfoncmeplofedaqGreatDoor

namespace Go.Proofs.YtfoncmeplofedaqGreatDoor
open Go.RowKit
set_option linter.unusedVariables false
theorem intTIt : Tryz.prog.underlying 3 = some (.int .i64) := Tryz.underlying3
set_option maxHeartbeats 1000000 in
set_option maxRecDepth 100000 in
theorem insertIt_any (B g h n k : Nat) (l : List It) (x : It) (w : World) (hl : l.length = n) (hown : w.ownsRow B 69 5 (.slice (some ⟨g, 0, none⟩) n n) n (rowC itf l)) (hx : ∀ j u, (rowC itf [x])[j]? = some u → w.cell? ((⟨h, 0, none⟩ : Addr).add j) = some u) (hhs : h < w.heap.size) (hk : k ≤ n) (hn : n ≤ 1048570) (hB : B ≤ w.heap.size) :
    Calls Tryz.prog 62 #[.slice (some ⟨g, 0, none⟩) n n, .int .i64 (k : Int), .slice (some ⟨h, 0, none⟩) 1 1] w fun e w' => ∃ v, e = .returned v ∧ OwnG itf 5 69 w' B v (l.take k ++ [x] ++ l.drop k) ∧ w.grownBy w' (some g) := by
  have htn := (itYN).ty itW
  have ht := (itLY).ty itW
  by_cases hkn : k = n
  · subst hkn
    have hsl : ∀ W : World, (Instr.slice 86 (.slice (some ⟨g, 0, none⟩) k k) (some (.int .i64 (k : Int))) none none).run Tryz.prog W = .ok (sliced (some ⟨g, 0, none⟩) k k k 5) W := fun W => by
      rw [run_slice_l W 86 _ _ k (by rw [elem_G htn]; exact htn.und) .i64 _ (by omega) (by omega), elem_G htn, size_G htn]
      simp [Result.andThen]
    have hown' : OwnG itf 5 69 w B (.slice (some ⟨g, 0, none⟩) k k) l := by rw [OwnG, hl]; exact hown
    have hrd : RdG itf 5 w (.slice (some ⟨h, 0, none⟩) 1 1) [x] := ⟨_, 1, rfl, Nat.le_refl _, fun _ => ⟨h, 0, rfl, hhs, fun i hi j u hu => by
      obtain rfl : i = 0 := by simpa using hi
      have h9 := hx j u (by rw [rowC_cons, rowC_nil, List.append_nil]; exact hu)
      rw [Addr.add_lit] at h9
      rw [Nat.zero_mul, Nat.zero_add]
      rw [Nat.zero_add] at h9
      exact h9⟩⟩
    obtain ⟨v', w', hr, ho, hg, _⟩ := append_G htn itW w 86 B _ _ l [x] hown' hrd (by simp; omega) hB
    rw [← append_two htn ht] at hr
    have e : l.take k ++ [x] ++ l.drop k = l ++ [x] := by rw [List.take_of_length_le (by omega), List.drop_of_length_le (by omega), List.append_nil]
    rw [e]
    have HR := Lib.hid hr
    have HO := Lib.hid ho
    generalize l ++ [x] = R at HO ⊢
    clear hown hx e hr hown' hrd ho hl
    go_enter Tryz.func62, Tryz.ntmps62
    go_wp2_with (at_builtin; refine Lib.wpList_append_run _ rfl _ _ _ _ rfl _ _ rfl rfl _ _ HR.out ?_)
    go_wp2
    go_ret
    exact ⟨_, rfl, HO.out, hg⟩
  · have hkn : k < n := by omega
    obtain ⟨hw, hgB⟩ := heap_of_G itW hown
    have hgl := (hown.lt g rfl).2
    obtain ⟨z, hz⟩ : ∃ z : Nat, (n : Int) + 1 - (k : Int) = (z : Int) := ⟨n + 1 - k, by omega⟩
    obtain ⟨C, w1, M, hge, hr, hC, hML, hMt, hh1, hb1, hs1⟩ := append_zerosG itYN itW intTIt w 86 g n k z l hl hw (by omega) (by omega) (by omega)
    obtain ⟨q, hq⟩ : ∃ q, q = w.heap.size := ⟨_, rfl⟩
    have hh1' : w1.heap[q]? = some (.cells (rowC itf M).toArray 69 (0, 0)) := by rw [hq]; exact hh1
    have hgq : g < q := by omega
    have hx1 : ∀ j u, (rowC itf [x])[j]? = some u → w1.cell? ((⟨h, 0, none⟩ : Addr).add j) = some u := fun j u hu => by
      have h9 := hx j u hu
      rw [Addr.add_lit] at h9 ⊢
      exact (hb1.cell (p := ⟨h, 0 + j, none⟩) (World.block_lt_of_cell? w _ h9)).trans h9
    have hc1 := fun sT ty => copy_G htn itW w1 sT ty q k (n + 1 - k) (C - k) ⟨h, 0, none⟩ 1 1 M [x] hh1' (by have h9 : min 1 (n + 1 - k) = 1 := Nat.min_eq_left (by omega); exact h9.symm) hx1 (by show k + 1 ≤ _; omega)
    obtain ⟨M2, hM2⟩ : ∃ M2, M2 = M.take k ++ [x] ++ M.drop (k + [x].length) := ⟨_, rfl⟩
    rw [← hM2] at hc1
    have hM2l : M2.length = C := by rw [hM2]; simp; omega
    have hM2t : M2.take (k + 1) = l.take k ++ [x] := by
      rw [hM2, hMt, List.append_assoc, ← List.append_assoc]
      rw [List.take_append_of_le_length (by simp; omega), List.take_of_length_le (by simp; omega)]
    obtain ⟨w2, hw2⟩ : ∃ w2, w2 = w1.setRow q (rowC itf M2).toArray := ⟨_, rfl⟩
    rw [← hw2] at hc1
    have hh2 : w2.heap[q]? = some (.cells (rowC itf M2).toArray 69 (0, 0)) := by rw [hw2]; exact setRow_heap w1 q _ _ 69 _ hh1'
    have hg2 : w2.heap[g]? = some (.cells (rowC itf l).toArray 69 (0, 0)) := by
      rw [hw2, setRow_other _ _ _ _ (by omega)]
      exact (hb1.block g hgl).trans hw
    have hsrc2 : ∀ j u, (rowC itf (l.drop k))[j]? = some u → w2.drew.cell? ((⟨g, k * 5, none⟩ : Addr).add j) = some u := fun j u hu => by
      rw [Addr.add_lit]
      show w2.cell? _ = _
      rw [cell_of_row w2 g (k * 5 + j) _ _ (0, 0) hg2]
      rw [← rowC_drop itW l k (by omega), List.getElem?_drop] at hu
      rw [List.getElem?_toArray]
      exact hu
    have hc2 := fun sT ty => copy_G htn itW w2.drew sT ty q (k + 1) (n - k) (C - (k + 1)) ⟨g, k * 5, none⟩ (n - k) (n - k) M2 (l.drop k) hh2 (by rw [List.length_drop, hl]; have h9 : min (n - k) (n - k) = n - k := Nat.min_eq_left (by omega); exact h9.symm) hsrc2 (by rw [List.length_drop]; omega)
    obtain ⟨M3, hM3⟩ : ∃ M3, M3 = M2.take (k + 1) ++ l.drop k ++ M2.drop (k + 1 + (l.drop k).length) := ⟨_, rfl⟩
    rw [← hM3] at hc2
    have hM3l : M3.length = C := by rw [hM3]; simp; omega
    have hM3t : M3.take (n + 1) = l.take k ++ [x] ++ l.drop k := by
      rw [hM3, hM2t]
      rw [List.take_append_of_le_length (by simp; omega), List.take_of_length_le (by simp; omega)]
    obtain ⟨w3, hw3⟩ : ∃ w3, w3 = w2.drew.setRow q (rowC itf M3).toArray := ⟨_, rfl⟩
    rw [← hw3] at hc2
    have hh3 : w3.heap[q]? = some (.cells (rowC itf M3).toArray 69 (0, 0)) := by rw [hw3]; exact setRow_heap w2.drew q _ _ 69 _ hh2
    have hgr : w.grownBy w3 (some g) := by
      refine ⟨?_, ?_, ?_, ?_, fun i hi _ => ?_⟩
      · rw [hw3, hw2]; exact hb1.os
      · rw [hw3, hw2]; exact hb1.tape
      · rw [hw3, hw2]; exact hb1.output
      · rw [hw3, hw2]
        show w.heap.size ≤ ((w1.setRow q (rowC itf M2).toArray).drew.setRow q (rowC itf M3).toArray).heap.size
        simp [World.setRow, World.drew]
        omega
      · rw [hw3, setRow_other _ _ _ _ (by omega)]
        show w2.heap[i]? = _
        rw [hw2, setRow_other _ _ _ _ (by omega)]
        exact hb1.block i hi
    have HO : Hid (OwnG itf 5 69 w3 B (.slice (some ⟨q, 0, none⟩) (n + 1) C) (l.take k ++ [x] ++ l.drop k)) := by
      have hlr : (l.take k ++ [x] ++ l.drop k).length = n + 1 := by simp; omega
      refine ⟨by rw [rowC_len itW], Or.inr ⟨q, C, _, by rw [hlr], by omega, hh3, by rw [hlr]; exact hge, hC, by rw [List.size_toArray, rowC_len itW, hM3l], ?_⟩⟩
      rw [hlr, ← hM3t]
      exact rowC_take itW M3 (n + 1) (by omega)
    have HG := Lib.hid hgr
    have hs1 := fun W => slG_to htn W g n k (by omega) (by omega)
    have hs2 := fun W => slG_from htn W q (n + 1) C k (by omega) (by omega) hge hC
    have hs3 := fun W => slG_from htn W q (n + 1) C (k + 1) (by omega) (by omega) hge hC
    have hs4 := fun W => slG_from htn W g n n k hkn (by omega) (Nat.le_refl _) (by unfold maxLen; omega)
    have e1 : ((k + 1 : Nat) : Int) = (k : Int) + 1 := rfl
    have e2 : ((n + 1 : Nat) : Int) = (n : Int) + 1 := rfl
    rw [e1] at hs3
    rw [← hq] at hr
    have HR := Lib.hid hr
    generalize l.take k ++ [x] ++ l.drop k = R at HO ⊢
    clear hown hx hr hh1 hh1' hx1 hw2 hw3 hh2 hh3 hgr hM2l hM2t hM3l hM3t hM3 hM2 hsrc2 hg2 hb1 hMt hML hw hl e1 e2 hq htn ht
    go_enter Tryz.func62, Tryz.ntmps62
    go_wp2_with (at_builtin; refine Lib.wpList_append_run _ rfl _ _ _ _ rfl _ _ rfl rfl _ _ HR.out ?_)
    go_region
    go_wp2
    go_ret
    exact ⟨_, rfl, HO.out, HG.out⟩
end Go.Proofs.YtfoncmeplofedaqGreatDoor

namespace Go.Proofs.YtfoncmeplofedaqGreatDoor
open Go.RowKit
set_option linter.unusedVariables false
/-- where a number is, or would be -/
def Plc (l : List Bl) (d : Int) (k : Nat) (fd : Bool) : Prop := k ≤ l.length ∧ (∀ j, j < k → (l.getD j bl0).1 < d) ∧ (∀ j, k ≤ j → j < l.length → d ≤ (l.getD j bl0).1) ∧ fd = (decide (k < l.length) && decide ((l.getD k bl0).1 = d))
theorem rise_at {l : List Bl} (hr : l.Pairwise (fun p q => p.1 < q.1)) {a b : Nat} (hab : a ≤ b) (hb : b < l.length) : (l.getD a bl0).1 ≤ (l.getD b bl0).1 := by
  rcases Nat.lt_or_ge a b with h | h
  · have := List.pairwise_iff_getElem.1 hr a b (by omega) hb h
    rw [getD_at hb, getD_at (show a < l.length by omega)]
    omega
  · obtain rfl : a = b := by omega
    exact Int.le_refl _
theorem plc_yes {l : List Bl} {d : Int} {k : Nat} (h : Plc l d k true) : k < l.length ∧ (l.getD k bl0).1 = d ∧ findB l d = some (l.getD k bl0) := by
  obtain ⟨_, h1, h2, h3⟩ := h
  have h3 := h3.symm
  rw [Bool.and_eq_true, decide_eq_true_eq, decide_eq_true_eq] at h3
  exact ⟨h3.1, h3.2, (idxB_is h3.1 h3.2 (fun j hj => by have := h1 j hj; omega)).2⟩
theorem plc_no {l : List Bl} {d : Int} {k : Nat} (hr : l.Pairwise (fun p q => p.1 < q.1)) (h : Plc l d k false) : findB l d = none := by
  obtain ⟨h0, h1, h2, h3⟩ := h
  refine (idxB_no fun j hj => ?_).2
  rcases Nat.lt_or_ge j k with g | g
  · have := h1 j g; omega
  · intro e
    have hk : k < l.length := by omega
    have h4 := h2 k (Nat.le_refl _) hk
    have h5 := rise_at hr g hj
    have h6 : (l.getD k bl0).1 = d := by omega
    rw [decide_eq_true hk, decide_eq_true h6] at h3
    cases h3
set_option maxHeartbeats 2000000 in
set_option maxRecDepth 100000 in
theorem search_any (va : Value) (l : List Bl) (d : Int) (w : World) (ha : RdB w va l) (hl : l.length ≤ 1048576) (hr : l.Pairwise (fun p q => p.1 < q.1)) :
    Calls Tryz.prog 89 #[va, .int .i64 d, .func (.func 90) #[] #[]] w fun e w' => ∃ (k : Nat) (fd : Bool), e = .returned (.tuple #[.int .i64 (k : Int), .bool fd]) ∧ Plc l d k fd ∧ Below w.heap.size w w' := by
  rcases rdB_cases ha with ⟨h0, ao, cap, rfl⟩ | ⟨hp, b, off, cap, rfl, _, hlt, hc⟩
  · subst h0
    go_enter Tryz.func89, Tryz.ntmps89
    go_wp2
    refine wp_loop_rounds 1 ?_
    rw [rounds_succ]
    go_wp2
    go_ret2
    exact ⟨0, false, rfl, ⟨Nat.le_refl _, fun j h => absurd h (Nat.not_lt_zero _), fun j _ h => absurd h (Nat.not_lt_zero _), rfl⟩, Below.refl _ _⟩
  have HA : Hid (CellsB b off l w) := hc
  have HR : Hid (∀ a b, a ≤ b → b < l.length → (l.getD a bl0).1 ≤ (l.getD b bl0).1) := fun a b h1 h2 => rise_at hr h1 h2
  obtain ⟨n, hn⟩ : ∃ n, n = l.length := ⟨_, rfl⟩
  rw [← hn] at hp hl HR ⊢
  have HN : Hid (n = l.length) := hn
  clear hc ha hn hr
  go_enter Tryz.func89, Tryz.ntmps89
  go_wp2
  go_loopg [9, 10] n (fun kx s9 s10 wr => ∃ lo hi : Nat, s9 = .int .i64 lo ∧ s10 = .int .i64 hi ∧ lo ≤ hi ∧ hi ≤ n ∧ hi - lo ≤ kx ∧ Hid (Below w.heap.size w wr) ∧ Hid ((∀ j, j < lo → (l.getD j bl0).1 < d) ∧ (∀ j, hi ≤ j → j < n → d ≤ (l.getD j bl0).1)))
  case atStart => exact ⟨0, n, rfl, rfl, Nat.zero_le _, Nat.le_refl _, by omega, Below.refl _ _, ⟨fun j h => absurd h (Nat.not_lt_zero _), fun j h1 h2 => by omega⟩⟩
  case round =>
    obtain ⟨lo, hi, rfl, rfl, hlh, hin, hg, hb, I⟩ := hrel
    by_cases hltk : lo < hi
    · obtain ⟨m, hm⟩ : ∃ m, m = (lo + hi) / 2 := ⟨_, rfl⟩
      have hs1 := hb.out.size
      have hml : m < l.length := by have := HN.out; omega
      obtain ⟨d0, d1⟩ := cellsB_below HA.out hlt hb.out m hml
      have hnew : Hid ((cmpI (l.getD m bl0).1 d < 0 → (∀ j, j < m + 1 → (l.getD j bl0).1 < d)) ∧ (¬ cmpI (l.getD m bl0).1 d < 0 → (∀ j, m ≤ j → j < n → d ≤ (l.getD j bl0).1))) := ⟨fun h j hj => by
        have h1 := HR.out j m (by omega) (by omega)
        have h2 := cmpI_neg.1 h
        omega, fun h j hj hjn => by
        have h1 := HR.out m j hj hjn
        have h2 : ¬ (l.getD m bl0).1 < d := fun g => h (cmpI_neg.2 g)
        omega⟩
      obtain ⟨x, hx⟩ : ∃ x, x = l.getD m bl0 := ⟨_, rfl⟩
      rw [← hx] at d0 d1 hnew
      obtain ⟨x1, x2⟩ := x
      simp only at d0 d1 hnew
      clear hx hml
      have hcall := fun W => place1_any x1 d x2 W
      subst hm
      by_cases hneg : cmpI x1 d < 0
      · go_wp2_with fail
        refine (hcall _).mono ?_
        rintro e w2 ⟨rfl, hb2⟩
        have HB2 := Lib.hid (hb.out.trans (hb2.mono hs1))
        have I2 := Lib.hid (And.intro (hnew.out.1 hneg) I.out.2)
        clear hcall hb2 hnew
        go_wp2
        go_roundg (hi - ((lo + hi) / 2 + 1))
        case measure => omega
        case rel => exact ⟨(lo + hi) / 2 + 1, hi, by rw [show ((lo : Int) + (hi : Int)) / 2 + 1 = (((lo + hi) / 2 + 1 : Nat) : Int) by omega], rfl, by omega, hin, Nat.le_refl _, HB2, I2⟩
      · go_wp2_with fail
        refine (hcall _).mono ?_
        rintro e w2 ⟨rfl, hb2⟩
        have HB2 := Lib.hid (hb.out.trans (hb2.mono hs1))
        have I2 := Lib.hid (And.intro I.out.1 (hnew.out.2 hneg))
        clear hcall hb2 hnew
        go_wp2
        go_roundg ((lo + hi) / 2 - lo)
        case measure => omega
        case rel => exact ⟨lo, (lo + hi) / 2, rfl, by rw [show ((lo : Int) + (hi : Int)) / 2 = (((lo + hi) / 2 : Nat) : Int) by omega], by omega, by omega, Nat.le_refl _, HB2, I2⟩
    · obtain rfl : hi = lo := by omega
      have hs1 := hb.out.size
      by_cases hln : hi < n
      · have hml : hi < l.length := by have := HN.out; omega
        obtain ⟨d0, d1⟩ := cellsB_below HA.out hlt hb.out hi hml
        have hfin : Hid (∀ fd, fd = decide ((l.getD hi bl0).1 = d) → Plc l d hi fd) := fun fd hfd => by
          have hx := HN.out
          exact ⟨by omega, I.out.1, fun j h1 h2 => I.out.2 j h1 (by omega), by rw [hfd, decide_eq_true hml, Bool.true_and]⟩
        obtain ⟨x, hx⟩ : ∃ x, x = l.getD hi bl0 := ⟨_, rfl⟩
        rw [← hx] at d0 d1 hfin
        obtain ⟨x1, x2⟩ := x
        simp only at d0 d1 hfin
        clear hx hml
        have hcall := fun W => place1_any x1 d x2 W
        obtain ⟨c, hc⟩ : ∃ c, c = cmpI x1 d := ⟨_, rfl⟩
        have hcz : (c = 0) = (x1 = d) := by rw [hc]; exact propext cmpI_zero
        rw [← hc] at hcall
        clear hc
        go_wp2_with fail
        refine (hcall _).mono ?_
        rintro e w2 ⟨rfl, hb2⟩
        have HB2 := Lib.hid (hb.out.trans (hb2.mono hs1))
        clear hcall hb2
        go_wp2
        go_ret2
        exact ⟨hi, decide (c = 0), rfl, hfin.out _ (by rw [decide_eq_decide]; rw [hcz]), HB2.out⟩
      · have hfin : Hid (Plc l d hi false) := by
          have hx := HN.out
          exact ⟨by omega, I.out.1, fun j h1 h2 => by omega, by rw [decide_eq_false (by omega), Bool.false_and]⟩
        go_wp2
        go_ret2
        exact ⟨hi, false, rfl, hfin.out, hb.out⟩
theorem place_any (va : Value) (l : List Bl) (d : Int) (w : World) (ha : RdB w va l) (hl : l.length ≤ 1048576) (hr : l.Pairwise (fun p q => p.1 < q.1)) :
    Calls Tryz.prog 75 #[va, .int .i64 d] w fun e w' => ∃ (k : Nat) (fd : Bool), e = .returned (.tuple #[.int .i64 (k : Int), .bool fd]) ∧ Plc l d k fd ∧ Below w.heap.size w w' := by
  have hcall := search_any va l d w ha hl hr
  obtain ⟨ao, cap, rfl⟩ := rdB_shape ha
  clear ha
  go_enter Tryz.func75, Tryz.ntmps75
  go_wp2_with fail
  refine hcall.mono ?_
  rintro e w2 ⟨k, fd, rfl, h, hb2⟩
  clear hcall
  go_wp2
  go_ret2
  exact ⟨k, fd, rfl, h, hb2⟩
end Go.Proofs.YtfoncmeplofedaqGreatDoor

namespace Go.Proofs.YtfoncmeplofedaqGreatDoor
open Go.RowKit
set_option linter.unusedVariables false
theorem blC_oneCell (l : List Bl) : ∀ u ∈ blC l, u.oneCell' = true := by
  intro u hu
  obtain ⟨p, _, h⟩ := List.mem_flatMap.1 hu
  simp only [List.mem_cons, List.mem_nil_iff, or_false] at h
  rcases h with rfl | rfl <;> rfl
theorem blC_at {w : World} {b off : Nat} {l : List Bl} (hc : ∀ j, j < l.length → w.cell? ⟨b, off + j * 2, none⟩ = some (.int .i64 (l.getD j bl0).1) ∧ w.cell? ⟨b, off + j * 2 + 1, none⟩ = some (.string (l.getD j bl0).2)) :
    ∀ j u, (blC l)[j]? = some u → w.cell? (Addr.add ⟨b, off, none⟩ j) = some u := by
  intro j u hu
  have hj := (List.getElem?_eq_some_iff.1 hu).1
  rw [blC_len] at hj
  obtain ⟨e0, e1⟩ := blC_get l (j / 2) (by omega)
  obtain ⟨c0, c1⟩ := hc (j / 2) (by omega)
  rw [Addr.add_lit]
  rcases Nat.mod_two_eq_zero_or_one j with h | h
  · rw [show j / 2 * 2 = j by omega] at e0 c0
    rw [e0] at hu
    rw [c0, hu]
  · rw [show j / 2 * 2 + 1 = j by omega] at e1
    rw [show off + j / 2 * 2 + 1 = off + j by omega] at c1
    rw [e1] at hu
    rw [c1, hu]
theorem run_append_blobs (w : World) (ty : TypeId) (base : Nat) (v : Value) (xs ys : List Bl) (vx : Value) (hown : w.ownsRow base 67 2 v xs.length (blC xs)) (hr : RdB w vx ys) (hb : xs.length + ys.length ≤ 1048576) (hbase : base ≤ w.heap.size) :
    ∃ v' w', (Builtin.append_ #[62, 62] ty #[v, vx]).run Tryz.prog w = .ok v' w' ∧ w'.ownsRow base 67 2 v' (xs.length + ys.length) (blC (xs ++ ys)) ∧ w.grownBy w' v.ownBlock := by
  obtain ⟨i0, hi, hz0, hz1, hz2⟩ := info_parts Tryz.infoBl
  have go : ∀ (ad : Addr) (c : Nat), vx = .slice (some ad) ys.length c → (∀ j u, (blC ys)[j]? = some u → w.cell? (ad.add j) = some u) → ∃ v' w', (Builtin.append_ #[62, 62] ty #[v, vx]).run Tryz.prog w = .ok v' w' ∧ w'.ownsRow base 67 2 v' (xs.length + ys.length) (blC (xs ++ ys)) ∧ w.grownBy w' v.ownBlock := fun ad c hv hc => by
    obtain ⟨v', w', h1, h2, h3, _⟩ := run_append_own (P := Tryz.prog) w base 62 ty 67 i0 (.agg #[.int .i64 0, .string ⟨#[]⟩]) 2 24 Tryz.underlying62 hi hz0 hz1 hz2 rfl (by decide) v xs.length (blC xs) hown ad ys.length c (blC ys) (blC_len ys) hc (blC_oneCell ys) (by unfold maxLen; omega) (by omega) hbase
    subst hv
    rw [← blC_append] at h2
    exact ⟨v', w', h1, h2, h3⟩
  rcases rdB_cases hr with ⟨h0, ao, cap, rfl⟩ | ⟨hp, b, off, cap, rfl, _, hlt, hc⟩
  · subst h0
    cases ao with
    | some ad => exact go ad cap rfl (fun j u hu => by cases hu)
    | none =>
      rw [List.append_nil]
      have hs : Src Tryz.prog i0.size 62 (.slice none 0 cap) 0 [] w := Src.ofNil w Tryz.underlying62 cap
      rcases hown.2 with ⟨rfl, h0⟩ | ⟨g, c, cur, rfl, hg, hh, hn, hm, hs2, ht⟩
      · rw [h0]
        exact ⟨_, w, run_append_nothing w 62 62 ty 67 i0 Tryz.underlying62 hi none 0 0 (Nat.le_refl _) _ hs, by simpa [h0] using hown, World.grownBy.refl _ _⟩
      · exact ⟨_, w, run_append_nothing w 62 62 ty 67 i0 Tryz.underlying62 hi _ _ _ hn _ hs, hown, World.grownBy.refl _ _⟩
  · exact go ⟨b, off, none⟩ cap rfl (blC_at hc)
theorem wpList_append_blobs {w : World} {ops : Array Oper} {rest : List Oper} {o : Oper} {a : Act} {Q : Exit → Act → World → Prop} (hgd : o.guard = none) (s x : Operand)
    (ho : o.op = .call { callee := .builtin .append, args := #[s, x], argTypes := #[62, 62] })
    (base : Nat) (v : Value) (xs ys : List Bl) (vx : Value) (hs : a.eval s = v) (hx : a.eval x = vx) (hown : w.ownsRow base 67 2 v xs.length (blC xs)) (hr : RdB w vx ys) (hb : xs.length + ys.length ≤ 1048576) (hbase : base ≤ w.heap.size)
    (h : ∀ v' w', w'.ownsRow base 67 2 v' (xs.length + ys.length) (blC (xs ++ ys)) → w.grownBy w' v.ownBlock → wpList Tryz.prog ops Q rest (a.put o.dst v') w') : wpList Tryz.prog ops Q (o :: rest) a w := by
  refine wpList_plain hgd fun K hK => ?_
  obtain ⟨v', w', hrun, r1, r2⟩ := run_append_blobs w o.type base v xs ys vx hown hr hb hbase
  unfold Oper.wp execOp
  simp only [ho, resolve, invoke, builtin, Sem.run_bind, Sem.run_pure, Result.andThen_ok, List.map_toArray, List.map_cons, List.map_nil, hs, hx, hrun]
  exact hK _ _ (h v' w' r1 r2)
theorem step_append_blobs {w : World} {ops : Array Oper} {o : Oper} {a : Act} {K : Act → World → Prop} {Q : Exit → Act → World → Prop} {E : Prop} (hgd : o.guard = none) (s x : Operand)
    (ho : o.op = .call { callee := .builtin .append, args := #[s, x], argTypes := #[62, 62] })
    (base : Nat) (v : Value) (xs ys : List Bl) (vx : Value) (hs : a.eval s = v) (hx : a.eval x = vx) (hown : w.ownsRow base 67 2 v xs.length (blC xs)) (hr : RdB w vx ys) (hb : xs.length + ys.length ≤ 1048576) (hbase : base ≤ w.heap.size)
    (h : ∀ v' w', w'.ownsRow base 67 2 v' (xs.length + ys.length) (blC (xs ++ ys)) → w.grownBy w' v.ownBlock → K (a.put o.dst v') w') :
    if Region.wanted o (yielded ops a.tmps) = true then Oper.wp Tryz.prog o a w K Q else E := by
  have hw : Region.wanted o (yielded ops a.tmps) = true := by simp [Region.wanted, hgd]
  rw [if_pos hw]
  obtain ⟨v', w', hrun, r1, r2⟩ := run_append_blobs w o.type base v xs ys vx hown hr hb hbase
  unfold Oper.wp execOp
  simp only [ho, resolve, invoke, builtin, Sem.run_bind, Sem.run_pure, Result.andThen_ok, List.map_toArray, List.map_cons, List.map_nil, hs, hx, hrun]
  exact h v' w' r1 r2
/-- one blob, as append's argument -/
theorem rdB_one (w : World) (x : Bl) (e : TypeId) : RdB (w.alloc (.cells #[.int .i64 x.1, .string x.2] e)) (.slice (some ⟨w.heap.size, 0, none⟩) 1 1) [x] := by
  refine ⟨_, 1, rfl, Nat.le_refl _, fun _ => ⟨_, 0, rfl, by rw [World.size_alloc]; omega, fun j hj => ?_⟩⟩
  obtain rfl : j = 0 := by simpa using hj
  exact ⟨by simp, by simp⟩
/-- the head of a row -/
theorem rdB_take {w : World} {ao : Option Addr} {n cap : Nat} {l : List Bl} (h : RdB w (.slice ao n cap) l) (k : Nat) (hk : k ≤ l.length) : RdB w (.slice ao k cap) (l.take k) := by
  obtain ⟨ao', cap', hv, hcap, hx⟩ := h
  simp only [Value.slice.injEq] at hv
  obtain ⟨rfl, rfl, rfl⟩ := hv
  have hl : (l.take k).length = k := by rw [List.length_take]; omega
  refine ⟨ao, cap, by rw [hl], by omega, fun hne => ?_⟩
  obtain ⟨b, off, ha, hlt, hc⟩ := hx (fun h0 => hne (by rw [h0]; simp))
  refine ⟨b, off, ha, hlt, fun j hj => ?_⟩
  rw [hl] at hj
  have e : (l.take k).getD j bl0 = l.getD j bl0 := by simp [List.getD, hj]
  rw [e]
  exact hc j (by omega)
/-- the tail of a row -/
theorem rdB_drop {w : World} {b off n cap : Nat} {l : List Bl} (h : RdB w (.slice (some ⟨b, off, none⟩) n cap) l) (k c' : Nat) (hk : k ≤ l.length) (hc' : l.length - k ≤ c') : RdB w (.slice (some ⟨b, off + k * 2, none⟩) (n - k) c') (l.drop k) := by
  obtain ⟨ao', cap', hv, hcap, hx⟩ := h
  simp only [Value.slice.injEq] at hv
  obtain ⟨rfl, rfl, rfl⟩ := hv
  have hl : (l.drop k).length = l.length - k := List.length_drop
  refine ⟨_, c', by rw [hl], by omega, fun hne => ?_⟩
  obtain ⟨b', off', ha, hlt, hc⟩ := hx (fun h0 => hne (by rw [h0]; simp))
  simp only [Option.some.injEq, Addr.mk.injEq, and_true] at ha
  obtain ⟨rfl, rfl⟩ := ha
  refine ⟨b, off + k * 2, rfl, hlt, fun j hj => ?_⟩
  rw [hl] at hj
  have e : (l.drop k).getD j bl0 = l.getD (k + j) bl0 := by simp [List.getD]
  rw [e]
  have h := hc (k + j) (by omega)
  rw [show off + (k + j) * 2 = off + k * 2 + j * 2 by omega] at h
  exact h
end Go.Proofs.YtfoncmeplofedaqGreatDoor
