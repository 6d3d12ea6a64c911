/- THE LAWS' OWN READERS OVER A SLICE OF TEXTS: eqStringS (of two that are alike), toStringS, szStringS. -/
import Derived.Test.YtfoncmeplofedahBasis
namespace Go.Proofs.Ytfoncmeplofedah
open Go.RowKit

theorem eqS_same (va vb : Value) (xs : List ByteArray) (w : World) (ha : Rd w va (cellsS xs)) (hb : Rd w vb (cellsS xs)) (hl : xs.length ≤ 1048576) :
    Calls Try.prog 11 #[va, vb] w fun e w' => e = .returned (.bool true) ∧ Below w.heap.size w w' := by
  have hla : (cellsS xs).length = xs.length := by simp
  rcases rd_cases ha with ⟨h0, ao, cap, rfl⟩ | ⟨hp, b, off, cap, rfl, _, hlt, hc⟩
  · have hx : xs = [] := by simpa using h0
    subst hx
    obtain ⟨bo, bcap, rfl, _, _⟩ := hb
    go_enter Try.func11, Try.ntmps11
    go_wp2
    refine wp_loop_rounds 1 ?_
    rw [rounds_succ]
    go_wp2
    go_ret
    exact ⟨rfl, Below.refl _ _⟩
  · rcases rd_cases hb with ⟨h0, ao, cap', rfl⟩ | ⟨_, b', off', cap', rfl, _, hlt', hc'⟩
    · rw [h0] at hp; simp at hp
    · rw [hla] at hc hc' hp ⊢
      obtain ⟨n, hn⟩ : ∃ n, n = xs.length := ⟨_, rfl⟩
      rw [← hn] at hl hp hc hc' ⊢
      have HA : Hid (∀ j, j < n → w.cell? ⟨b, off + j, none⟩ = some (.string (xs.getD j ByteArray.empty))) := fun j hj => (hc j hj).trans (strs_get xs j (by omega))
      have HB : Hid (∀ j, j < n → w.cell? ⟨b', off' + j, none⟩ = some (.string (xs.getD j ByteArray.empty))) := fun j hj => (hc' j hj).trans (strs_get xs j (by omega))
      clear hc hc' hla hp hn ha hb
      go_enter Try.func11, Try.ntmps11
      go_wp2
      go_loopw [5] (fun i wr => ∃ k d : Nat, k ≤ n ∧ i = .int .i64 k ∧ wr = w.drewN d) (fun i _ => n - (intOf i).toNat)
      case atStart => exact ⟨0, 0, Nat.zero_le _, rfl, rfl⟩
      case round =>
        obtain ⟨k, d, hk, rfl, rfl⟩ := hrel
        by_cases hlt : k < n
        · have hca := HA.out k hlt
          have hcb := HB.out k hlt
          obtain ⟨z, hz⟩ : ∃ z, z = xs.getD k ByteArray.empty := ⟨_, rfl⟩
          rw [← hz] at hca hcb
          clear hz
          go_wp2
          go_quiet (fail)
          go_wp2
          go_roundw
          case rel => exact ⟨k + 1, _, by omega, by go_num, rfl⟩
          case measure => simp [intOf]; omega
        · go_wp2
          go_ret
          exact ⟨rfl, below_drewN (Below.refl _ _) _⟩

theorem toS_step (xs : List ByteArray) (n k : Nat) (h : k < xs.length) (hn : k < n) : ((cellsS (xs.take k ++ List.replicate (n - k) (⟨#[]⟩ : ByteArray))).set k (.string (xs.getD k ByteArray.empty))) = cellsS (xs.take (k + 1) ++ List.replicate (n - (k + 1)) (⟨#[]⟩ : ByteArray)) := by
  have e : (cellsS (xs.take k)).length = k := by simp; omega
  have e1 : n - k = (n - (k + 1)) + 1 := by omega
  have e2 : cellsS (xs.take k ++ List.replicate (n - k) (⟨#[]⟩ : ByteArray)) = cellsS (xs.take k) ++ (Value.string ⟨#[]⟩ :: cellsS (List.replicate (n - (k + 1)) (⟨#[]⟩ : ByteArray))) := by rw [e1, List.replicate_succ, cellsS, List.map_append, List.map_cons]
  rw [e2, List.set_append_right _ _ (by omega), e, Nat.sub_self, List.set_cons_zero, take_snoc xs ByteArray.empty k h]
  simp

theorem toS_any (va : Value) (xs : List ByteArray) (w : World) (ha : Rd w va (cellsS xs)) (hl : xs.length ≤ 1048576) :
    Calls Try.prog 20 #[va] w fun e w' => ∃ v, e = .returned v ∧ w'.ownsRow w.heap.size 9 1 v xs.length (cellsS xs) ∧ Below w.heap.size w w' := by
  obtain ⟨i0, hi, hz0, hz1, hz2⟩ := info_parts Try.infoS
  have hla : (cellsS xs).length = xs.length := by simp
  rcases rd_cases ha with ⟨h0, ao, cap, rfl⟩ | ⟨hp, b, off, cap, rfl, _, hlt, hc⟩
  · have hx : xs = [] := by simpa using h0
    subst hx
    go_enter Try.func20, Try.ntmps20
    go_wp2_with (at_make; refine wpList_make_full _ rfl _ _ 22 rfl w.heap.size 9 i0 (.string ⟨#[]⟩) 1 Try.underlying22 hi hz0 hz1 _ _ _ _ 0 rfl rfl (by omega) (by omega) (by omega) (by decide) ?c0 ?_)
    case c0 => exact Nat.le_refl _
    intro w0 hmade hg0
    have hb0 : Below w.heap.size w w0 := (Below.refl _ _).grown hg0 (Nat.le_refl _) (fun k hk => by cases hk)
    clear hg0
    go_wp2
    refine wp_loop_rounds 1 ?_
    rw [rounds_succ]
    go_wp2
    go_ret
    exact ⟨_, rfl, by simpa [toList_madeCells_one] using hmade, hb0⟩
  · rw [hla] at hc hp ⊢
    obtain ⟨n, hn⟩ : ∃ n, n = xs.length := ⟨_, rfl⟩
    rw [← hn] at hc hp hl ⊢
    have HN : Hid (n = xs.length) := hn
    have HA : Hid (∀ j, j < n → w.cell? ⟨b, off + j, none⟩ = some (.string (xs.getD j ByteArray.empty))) := fun j hj => (hc j hj).trans (strs_get xs j (by omega))
    clear hc hla ha hn
    go_enter Try.func20, Try.ntmps20
    go_wp2_with (at_make; refine wpList_make_full _ rfl _ _ 22 rfl w.heap.size 9 i0 (.string ⟨#[]⟩) 1 Try.underlying22 hi hz0 hz1 _ _ _ _ n rfl rfl rfl rfl (by rw [hz2]; omega) (by unfold maxLen; omega) ?c1 ?_)
    case c1 => exact Nat.le_refl _
    intro w0 hmade hg0
    have hb0 : Below w.heap.size w w0 := (Below.refl _ _).grown hg0 (Nat.le_refl _) (fun k hk => by cases hk)
    have hm2 : w0.ownsRow w.heap.size 9 1 (.slice (some ⟨w.heap.size, 0, none⟩) n n) n (cellsS (xs.take 0 ++ List.replicate (n - 0) (⟨#[]⟩ : ByteArray))) := by
      have h := hmade
      rw [toList_madeCells_one] at h
      simpa using h
    clear hg0 hmade
    go_wp2
    go_loopw [4] (fun i wr => ∃ k : Nat, k ≤ n ∧ i = .int .i64 k ∧ wr.ownsRow w.heap.size 9 1 (.slice (some ⟨w.heap.size, 0, none⟩) n n) n (cellsS (xs.take k ++ List.replicate (n - k) (⟨#[]⟩ : ByteArray))) ∧ Below w.heap.size w wr) (fun i _ => n - (intOf i).toNat)
    case atStart => exact ⟨0, Nat.zero_le _, rfl, hm2, hb0⟩
    case round =>
      obtain ⟨k, hk, rfl, ho, hb⟩ := hrel
      clear hb0 hm2
      by_cases hltk : k < n
      · have hx := HN.out
        have hc : wr.cell? ⟨w.heap.size, k, none⟩ = some (.string ((xs.take k ++ List.replicate (n - k) (⟨#[]⟩ : ByteArray)).getD k ByteArray.empty)) := (ho.cellAt k (by omega)).trans (strs_get _ k (by simp; omega))
        have hf := ho.frozenAt k
        have hst := ho.stored k (.string (xs.getD k ByteArray.empty))
        rw [toS_step xs n k (by omega) hltk] at hst
        obtain ⟨hs1, hs2⟩ := hst
        have hca : wr.cell? ⟨b, off + k, none⟩ = some (.string (xs.getD k ByteArray.empty)) := (hb.cell (p := ⟨b, off + k, none⟩) hlt).trans (HA.out k hltk)
        obtain ⟨u, hu⟩ : ∃ u, u = Value.string ((xs.take k ++ List.replicate (n - k) (⟨#[]⟩ : ByteArray)).getD k ByteArray.empty) := ⟨_, rfl⟩
        rw [← hu] at hc
        obtain ⟨x, hxx⟩ : ∃ x, x = xs.getD k ByteArray.empty := ⟨_, rfl⟩
        rw [← hxx] at hca hs1 hs2
        have hb2 : Below w.heap.size w (wr.setCell ⟨w.heap.size, k, none⟩ (.string x)) := hb.setCell (Nat.le_refl _) _
        have hne : ¬ w.heap.size = b := by omega
        clear hx hu hxx ho
        go_wp2
        go_roundw
        case rel => exact ⟨k + 1, by omega, by go_num, hs1, hb2⟩
        case measure => simp [intOf]; omega
      · obtain rfl : k = n := by omega
        have hx := HN.out
        rw [List.take_of_length_le (by omega), Nat.sub_self, List.replicate_zero, List.append_nil] at ho
        clear hx
        go_wp2
        go_ret
        exact ⟨_, rfl, ho, hb⟩

/-- what is left of l when the lengths of xs are taken off; -1 when it falls below 0 -/
def szF : List ByteArray → Int → Int
  | [], l => l
  | s :: r, l => if l - (s.size : Int) < 0 then -1 else szF r (l - (s.size : Int))
def szS (xs : List ByteArray) (l : Int) : Int := if l - (xs.length : Int) < 0 then -1 else szF xs (l - (xs.length : Int))
theorem szF_nonneg (xs : List ByteArray) : ∀ l, 0 ≤ szF xs l → 0 ≤ l → szF xs l ≤ l ∧ ∀ s ∈ xs, (s.size : Int) ≤ l := by
  induction xs with
  | nil => intro l _ _; exact ⟨Int.le_refl _, fun s hs => by cases hs⟩
  | cons s r ih =>
    intro l h h0
    rw [szF] at h ⊢
    by_cases hn : l - (s.size : Int) < 0
    · rw [if_pos hn] at h; omega
    · rw [if_neg hn] at h ⊢
      have h1 := ih _ h (by omega)
      refine ⟨by omega, fun x hx => ?_⟩
      rcases List.mem_cons.1 hx with rfl | hx
      · omega
      · have := h1.2 x hx; omega
theorem szS_nonneg {xs : List ByteArray} {l : Int} (h : 0 ≤ szS xs l) : (xs.length : Int) ≤ l ∧ ∀ s ∈ xs, (s.size : Int) ≤ l := by
  unfold szS at h
  by_cases hn : l - (xs.length : Int) < 0
  · rw [if_pos hn] at h; omega
  · rw [if_neg hn] at h
    have h1 := szF_nonneg xs _ h (by omega)
    exact ⟨by omega, fun s hs => by have := h1.2 s hs; omega⟩
theorem szF_drop (xs : List ByteArray) (k : Nat) (l : Int) (h : k < xs.length) : szF (xs.drop k) l = if l - ((xs.getD k ByteArray.empty).size : Int) < 0 then -1 else szF (xs.drop (k + 1)) (l - ((xs.getD k ByteArray.empty).size : Int)) := by
  have e : xs.drop k = xs.getD k ByteArray.empty :: xs.drop (k + 1) := by rw [List.drop_eq_getElem_cons h]; simp [List.getD, h]
  rw [e, szF]

theorem szS_any (va : Value) (xs : List ByteArray) (l : Int) (w : World) (ha : Rd w va (cellsS xs)) (hn : xs.length ≤ 9223372036854775807) (hs : ∀ s ∈ xs, s.size ≤ 9223372036854775807) (h0 : 0 ≤ l) (hl : l ≤ 1048576) :
    Calls Try.prog 18 #[va, .int .i64 l] w fun e w' => e = .returned (.int .i64 (szS xs l)) ∧ Below w.heap.size w w' := by
  have hla : (cellsS xs).length = xs.length := by simp
  by_cases hbig : l - (xs.length : Int) < 0
  · obtain ⟨ao, cap, rfl, _, _⟩ := ha
    have e : szS xs l = -1 := by unfold szS; rw [if_pos hbig]
    rw [e, hla]
    clear hs e
    go_enter Try.func18, Try.ntmps18
    go_wp2
    go_ret
    exact ⟨rfl, Below.refl _ _⟩
  · have e : szS xs l = szF xs (l - (xs.length : Int)) := by unfold szS; rw [if_neg hbig]
    rw [e]
    clear e hn
    rcases rd_cases ha with ⟨h1, ao, cap, rfl⟩ | ⟨hp, b, off, cap, rfl, _, hlt, hc⟩
    · have hx : xs = [] := by simpa using h1
      subst hx
      go_enter Try.func18, Try.ntmps18
      go_wp2
      refine wp_loop_rounds 1 ?_
      rw [rounds_succ]
      go_wp2
      go_ret
      exact ⟨ret_int (by simp [szF]), Below.refl _ _⟩
    · rw [hla] at hc hp ⊢
      obtain ⟨n, hn⟩ : ∃ n, n = xs.length := ⟨_, rfl⟩
      rw [← hn] at hc hp hbig ⊢
      have HN : Hid (n = xs.length) := hn
      have HS : Hid (∀ s ∈ xs, s.size ≤ 9223372036854775807) := hs
      have HA : Hid (∀ j, j < n → w.cell? ⟨b, off + j, none⟩ = some (.string (xs.getD j ByteArray.empty))) := fun j hj => (hc j hj).trans (strs_get xs j (by omega))
      clear hc hla ha hn hs
      go_enter Try.func18, Try.ntmps18
      go_wp2
      go_loop [1, 5] (fun q i => ∃ (k : Nat) (z : Int), k ≤ n ∧ q = .int .i64 z ∧ 0 ≤ z ∧ z ≤ 1048576 ∧ i = .int .i64 k ∧ Hid (szF xs (l - (n : Int)) = szF (xs.drop k) z)) (fun _ i => n - (intOf i).toNat)
      case atStart => exact ⟨0, l - (n : Int), Nat.zero_le _, rfl, by omega, by omega, rfl, rfl⟩
      case round =>
        obtain ⟨k, z, hk, rfl, hz0, hz1, rfl, hr⟩ := hrel
        by_cases hltk : k < n
        · have hkx : k < xs.length := by have := HN.out; omega
          have hca := HA.out k hltk
          have hsz : (xs.getD k ByteArray.empty).size ≤ 9223372036854775807 := by
            have e : xs.getD k ByteArray.empty = xs[k] := by simp [List.getD, hkx]
            rw [e]; exact HS.out _ (List.getElem_mem hkx)
          have HR : Hid (szF xs (l - (n : Int)) = if z - ((xs.getD k ByteArray.empty).size : Int) < 0 then -1 else szF (xs.drop (k + 1)) (z - ((xs.getD k ByteArray.empty).size : Int))) := hr.out.trans (szF_drop xs k z hkx)
          obtain ⟨x, hxx⟩ : ∃ x, x = xs.getD k ByteArray.empty := ⟨_, rfl⟩
          rw [← hxx] at hca hsz HR
          clear hxx hkx hr
          by_cases hneg : z - (x.size : Int) < 0
          · have HR2 := HR.out
            rw [if_pos hneg] at HR2
            have HR3 : Hid (szF xs (l - (n : Int)) = -1) := HR2
            clear HR2 HR
            go_wp2
            go_ret
            exact ⟨ret_int HR3.out.symm, Below.refl _ _⟩
          · have HR3 : Hid (szF xs (l - (n : Int)) = szF (xs.drop (k + 1)) (z - (x.size : Int))) := by
              have h := HR.out
              rw [if_neg hneg] at h
              exact h
            clear HR
            go_wp2
            go_round
            case rel => exact ⟨k + 1, z - (x.size : Int), by omega, by go_num, by omega, by omega, by go_num, HR3⟩
            case measure => simp [intOf]; omega
        · have e : szF xs (l - (n : Int)) = z := by
            rw [hr.out, List.drop_of_length_le (by have := HN.out; omega)]
            rfl
          have HE : Hid (szF xs (l - (n : Int)) = z) := e
          clear e hr
          go_wp2
          go_ret
          exact ⟨ret_int HE.out.symm, Below.refl _ _⟩

end Go.Proofs.Ytfoncmeplofedah
