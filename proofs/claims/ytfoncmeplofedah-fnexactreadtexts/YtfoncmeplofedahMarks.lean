/- CONTRACTS: laws.markText, markStringS, heldStringS. -/
import Derived.Test.YtfoncmeplofedahStrs
import Derived.Deep.RegionWith
namespace Go.Proofs.Ytfoncmeplofedah
open Go.RowKit

/-- the digits of k ahead of o, with fuel -/
def digF : Nat → Nat → ByteArray → ByteArray
  | 0, _, o => o
  | f + 1, k, o => if k = 0 then o else digF f (k / 10) (asB [48 + ((k % 10 : Nat) : Int)] ++ o)
theorem digF_zero (f : Nat) (o : ByteArray) : digF f 0 o = o := by cases f <;> simp [digF]
def mtxt (k : Nat) : ByteArray := ⟨#[109]⟩ ++ digF k k ⟨#[]⟩

theorem digF_size (f : Nat) : ∀ k o, (digF f k o).size ≤ o.size + f := by
  induction f with
  | zero => intro k o; simp [digF]
  | succ f ih =>
    intro k o
    rw [digF]
    split
    · omega
    · have h := ih (k / 10) (asB [48 + ((k % 10 : Nat) : Int)] ++ o)
      rw [ByteArray.size_append, asB_size] at h
      simp only [List.length_singleton] at h
      omega

theorem str_one (W : World) (z : Int) (h : 0 ≤ z ∧ z ≤ 255) : (convert 34 9 (.slice (some ⟨W.heap.size, 0, none⟩) 1 1)).run Try.prog (W.alloc (.cells #[.int .u8 z] 5)) = .ok (.string (asB [z])) (W.alloc (.cells #[.int .u8 z] 5)) :=
  str_of (W.alloc (.cells #[.int .u8 z] 5)) W.heap.size 0 1 1 [z] (fun x hx => by rw [List.mem_singleton.1 hx]; exact h) (Nat.le_refl _) (fun j hj => by
    have hj' : j = 0 := by simpa using hj
    subst hj'
    simp)

set_option maxRecDepth 100000 in
theorem markText_any (k0 : Nat) (w : World) (h0 : 0 < k0) (h1 : k0 ≤ 16777216) :
    Calls Try.prog 29 #[.int .i64 (k0 : Int)] w fun e w' => e = .returned (.string (mtxt k0)) ∧ Below w.heap.size w w' := by
  have hle : ¬ ((k0 : Int) ≤ 0) := by omega
  go_enter Try.func29, Try.ntmps29
  go_wp2
  go_loopw [0, 3] (fun q s wr => ∃ (k f : Nat) (o : ByteArray), q = .int .i64 k ∧ k ≤ f ∧ f ≤ k0 ∧ s = .string o ∧ o.size ≤ 16777216 + (k0 - f) ∧ Hid (digF k0 k0 ⟨#[]⟩ = digF f k o) ∧ Below w.heap.size w wr) (fun q _ _ => (intOf q).toNat)
  case atStart => exact ⟨k0, k0, ⟨#[]⟩, rfl, Nat.le_refl _, Nat.le_refl _, rfl, Nat.zero_le _, rfl, Below.refl _ _⟩
  case round =>
    obtain ⟨k, f, o, rfl, hkf, hfk, rfl, ho, hd, hb⟩ := hrel
    have hs := hb.size
    by_cases hk : 0 < (k : Int)
    · have hst := str_one wr (48 + (k : Int) % 10) (by omega)
      obtain ⟨g, rfl⟩ : ∃ g, f = g + 1 := ⟨f - 1, by omega⟩
      have hd2 : Hid (digF k0 k0 ⟨#[]⟩ = digF g (k / 10) (asB [48 + (k : Int) % 10] ++ o)) := by
        have h := hd.out
        rw [digF, if_neg (by omega)] at h
        exact h
      have hsz : (asB [48 + (k : Int) % 10] ++ o).size ≤ 16777216 + (k0 - g) := by
        rw [ByteArray.size_append, asB_size]; simp only [List.length_singleton]; omega
      have ha1 : (asB [48 + (k : Int) % 10]).size = 1 := by rw [asB_size]; rfl
      have hadd : ∀ W : World, (Op.stringOp .add (asB [48 + (k : Int) % 10]) o).run Try.prog W = .ok (.string (asB [48 + (k : Int) % 10] ++ o)) W := fun W => run_string_add_sum W _ _ (by omega)
      obtain ⟨t, ht⟩ : ∃ t, t = asB [48 + (k : Int) % 10] := ⟨_, rfl⟩
      rw [← ht] at hst hd2 hsz ha1 hadd
      clear ht hd
      go_wp2
      go_roundw
      case rel => exact ⟨k / 10, g, t ++ o, by go_num, by omega, by omega, rfl, hsz, hd2, hb.alloc hs _⟩
      case measure => simp [intOf]; omega
    · have hz : k = 0 := by omega
      subst hz
      have hm1 : (⟨#[109]⟩ : ByteArray).size = 1 := rfl
      have hd2 : Hid (mtxt k0 = ⟨#[109]⟩ ++ o) := by
        have h := hd.out
        rw [digF_zero] at h
        unfold mtxt
        rw [h]; rfl
      have hadd : ∀ W : World, (Op.stringOp .add ⟨#[109]⟩ o).run Try.prog W = .ok (.string (⟨#[109]⟩ ++ o)) W := fun W => run_string_add_sum W _ _ (by omega)
      clear hd hm1
      go_wp2
      go_ret
      exact ⟨by rw [hd2.out]; rfl, hb⟩

/-- what markStringS lays from 1 on -/
def marksS (n : Nat) : List ByteArray := (List.range n).map fun (j : Nat) => mtxt (1 + j)
theorem marksS_len (n : Nat) : (marksS n).length = n := by simp [marksS]
theorem marksS_succ (k : Nat) : marksS (k + 1) = marksS k ++ [mtxt (1 + k)] := by simp [marksS, List.range_succ]
theorem marksS_get (n j : Nat) (h : j < n) : (marksS n).getD j ByteArray.empty = mtxt (1 + j) := by simp [marksS, List.getD, h]
theorem marksS_step (k : Nat) (xs : List ByteArray) (h : k < xs.length) : ((cellsS (marksS k ++ xs.drop k)).set k (.string (mtxt (1 + k)))) = cellsS (marksS (k + 1) ++ xs.drop (k + 1)) := by
  have hd : xs.drop k = xs[k] :: xs.drop (k + 1) := List.drop_eq_getElem_cons h
  rw [marksS_succ, hd]
  have e : (cellsS (marksS k)).length = k := by simp [marksS_len]
  have e2 : cellsS (marksS k ++ xs[k] :: xs.drop (k + 1)) = cellsS (marksS k) ++ (Value.string xs[k] :: cellsS (xs.drop (k + 1))) := by rw [cellsS, List.map_append, List.map_cons]
  rw [e2, List.set_append_right _ _ (by omega), e, Nat.sub_self, List.set_cons_zero]
  simp

set_option maxHeartbeats 1000000 in
set_option maxRecDepth 100000 in
theorem markS_one (base : Nat) (v : Value) (xs : List ByteArray) (w : World) (hown : w.ownsRow base 9 1 v xs.length (cellsS xs)) (hl : xs.length ≤ 1048576) :
    Calls Try.prog 12 #[v, .int .i64 1] w fun e w' => e = .returned (.int .i64 (1 + (xs.length : Int))) ∧ w'.ownsRow base 9 1 v xs.length (cellsS (marksS xs.length)) ∧ w.grownBy w' v.ownBlock := by
  rcases hown.2 with ⟨hv, h0⟩ | ⟨g, cap, cur, hv, hbg, hh, hn, _⟩
  · have hx : xs = [] := List.eq_nil_of_length_eq_zero h0
    subst hx hv
    go_enter Try.func12, Try.ntmps12
    go_wp2
    refine wp_loop_rounds 1 ?_
    rw [rounds_succ]
    go_wp2
    go_ret
    exact ⟨by simp, by simpa [marksS] using hown, World.grownBy.refl _ _⟩
  · subst hv
    have hgs : g < w.heap.size := (Array.getElem?_eq_some_iff.1 hh).1
    obtain ⟨n, hnx⟩ : ∃ n, n = xs.length := ⟨_, rfl⟩
    rw [← hnx] at hown hl ⊢
    have HX : Hid (n = xs.length) := hnx
    clear hh hn hnx
    go_enter Try.func12, Try.ntmps12
    go_wp2
    go_loopw [1, 5] (fun q i wr => ∃ k : Nat, k ≤ n ∧ q = .int .i64 (1 + (k : Int)) ∧ i = .int .i64 k ∧ wr.ownsRow base 9 1 (.slice (some ⟨g, 0, none⟩) n cap) n (cellsS (marksS k ++ xs.drop k)) ∧ w.grownBy wr (some g)) (fun _ i _ => n - (intOf i).toNat)
    case atStart => exact ⟨0, Nat.zero_le _, by simp, rfl, by simpa [marksS] using hown, World.grownBy.refl _ _⟩
    case round =>
      obtain ⟨k, hk, rfl, rfl, ho, hg⟩ := hrel
      by_cases hlt : k < n
      · have hcall : Calls Try.prog 29 #[.int .i64 (1 + (k : Int))] wr fun e w' => e = .returned (.string (mtxt (1 + k))) ∧ Below wr.heap.size wr w' := by
          have h := markText_any (1 + k) wr (by omega) (by omega)
          rw [show (((1 + k : Nat)) : Int) = 1 + (k : Int) by omega] at h
          exact h
        go_wp2_with fail
        refine hcall.mono ?_
        rintro e w2 ⟨rfl, hb2⟩
        clear hcall
        have ho2 := owns_below ho hb2
        have hg2 : w.grownBy w2 (some g) := grown_below hg hb2
        have hc : w2.cell? ⟨g, k, none⟩ = some (.string ((marksS k ++ xs.drop k).getD k ByteArray.empty)) := (ho2.cellAt k (by omega)).trans (strs_get _ k (by have := HX.out; simp [marksS_len]; omega))
        have hf := ho2.frozenAt k
        have hst := ho2.stored k (.string (mtxt (1 + k)))
        rw [marksS_step k xs (by have := HX.out; omega)] at hst
        obtain ⟨hs1, hs2⟩ := hst
        obtain ⟨u, hu⟩ : ∃ u, u = Value.string ((marksS k ++ xs.drop k).getD k ByteArray.empty) := ⟨_, rfl⟩
        rw [← hu] at hc
        obtain ⟨t, ht⟩ : ∃ t, t = mtxt (1 + k) := ⟨_, rfl⟩
        rw [← ht] at hs1 hs2 ⊢
        clear hu ht ho ho2 hg hb2
        go_wp2
        go_roundw
        case rel => exact ⟨k + 1, by omega, by go_num, by go_num, hs1, grown_trans hg2 hs2⟩
        case measure => simp [intOf]; omega
      · obtain rfl : k = n := by omega
        go_wp2
        go_ret
        refine ⟨rfl, ?_, hg⟩
        have hx := HX.out
        rw [List.drop_of_length_le (by omega), List.append_nil] at ho
        exact ho

set_option maxHeartbeats 1000000 in
set_option maxRecDepth 100000 in
theorem heldS_one (v : Value) (n : Nat) (w : World) (hrd : Rd w v (cellsS (marksS n))) (hl : n ≤ 1048576) :
    Calls Try.prog 13 #[v, .int .i64 1] w fun e w' => e = .returned (.int .i64 (1 + (n : Int))) ∧ Below w.heap.size w w' := by
  have hla : (cellsS (marksS n)).length = n := by simp [marksS_len]
  rcases rd_cases hrd with ⟨h0, ao, cap, rfl⟩ | ⟨hp, b, off, cap, rfl, _, hlt, hc⟩
  · obtain rfl : n = 0 := by rw [h0] at hla; simpa using hla.symm
    go_enter Try.func13, Try.ntmps13
    go_wp2
    refine wp_loop_rounds 1 ?_
    rw [rounds_succ]
    go_wp2
    go_ret
    exact ⟨by simp, Below.refl _ _⟩
  · rw [hla] at hc ⊢
    have HC : Hid (∀ j, j < n → w.cell? ⟨b, off + j, none⟩ = some (.string (mtxt (1 + j)))) := fun j hj => by
      rw [hc j hj, strs_get _ j (by rw [marksS_len]; exact hj), marksS_get n j hj]
    clear hc hla hp hrd
    go_enter Try.func13, Try.ntmps13
    go_wp2
    go_loopw [1, 5] (fun q i wr => ∃ k : Nat, k ≤ n ∧ q = .int .i64 (1 + (k : Int)) ∧ i = .int .i64 k ∧ Below w.heap.size w wr) (fun _ i _ => n - (intOf i).toNat)
    case atStart => exact ⟨0, Nat.zero_le _, by simp, rfl, Below.refl _ _⟩
    case round =>
      obtain ⟨k, hk, rfl, rfl, hb⟩ := hrel
      have hs := hb.size
      by_cases hltk : k < n
      · have hcall : ∀ W : World, Calls Try.prog 29 #[.int .i64 (1 + (k : Int))] W fun e w' => e = .returned (.string (mtxt (1 + k))) ∧ Below W.heap.size W w' := fun W => by
          have h := markText_any (1 + k) W (by omega) (by omega)
          rw [show (((1 + k : Nat)) : Int) = 1 + (k : Int) by omega] at h
          exact h
        have HCALL : Hid (∀ W : World, Calls Try.prog 29 #[.int .i64 (1 + (k : Int))] W fun e w' => e = .returned (.string (mtxt (1 + k))) ∧ Below W.heap.size W w') := hcall
        have hc := (hb.cell (p := ⟨b, off + k, none⟩) hlt).trans (HC.out k hltk)
        obtain ⟨t, ht⟩ : ∃ t, t = mtxt (1 + k) := ⟨_, rfl⟩
        have HT : Hid (t = mtxt (1 + k)) := ht
        rw [← ht] at hc
        have HC0 : Hid (w.cell? ⟨b, off + k, none⟩ = some (.string t)) := by rw [ht]; exact HC.out k hltk
        clear hcall ht
        go_wp2
        go_region_with (go_at_call 29; refine (HCALL.out _).mono ?_; rintro e w2 ⟨rfl, hb2⟩; rw [← HT.out]; have hb3 : Below w.heap.size w w2 := hb.drew.trans (hb2.mono hs); have hc2 := (hb3.cell (p := ⟨b, off + k, none⟩) hlt).trans HC0.out)
        all_goals
          go_wp2
          go_roundw
          case rel => exact ⟨k + 1, by omega, by go_num, by go_num, hb3⟩
          case measure => simp [intOf]; omega
      · obtain rfl : k = n := by omega
        go_wp2
        go_ret
        exact ⟨rfl, hb⟩

end Go.Proofs.Ytfoncmeplofedah
