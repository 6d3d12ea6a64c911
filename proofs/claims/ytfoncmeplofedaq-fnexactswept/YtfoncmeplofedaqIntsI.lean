/- THE LAWS' OWN READERS AND MARKERS OVER A SLICE OF NUMBERS (Int64S): eqInt64S, heldInt64S read, markInt64S writes. -/
import Derived.Test.YtfoncmeplofedaqBasis
namespace Go.Proofs.Ytfoncmeplofedaq
open Go.RowKit

theorem eqInt64S_any (va vb : Value) (xs ys : List Int) (w : World) (ha : Rd w va (cellsInt64S xs)) (hb : Rd w vb (cellsInt64S ys)) (hl : xs.length ≤ 140737488355328) (hl2 : ys.length ≤ 140737488355328) :
    Calls Try.prog 13 #[va, vb] w fun e w' => e = .returned (.bool (decide (xs = ys))) ∧ Below w.heap.size w w' := by
  have hla : (cellsInt64S xs).length = xs.length := by simp
  have hlb : (cellsInt64S ys).length = ys.length := by simp
  by_cases hne : xs.length = ys.length
  · rcases rd_cases ha with ⟨h0, ao, cap, rfl⟩ | ⟨hp, b, off, cap, rfl, _, hlt, hc⟩
    · have hx : xs = [] := by simpa using h0
      subst hx
      obtain rfl : ys = [] := List.eq_nil_of_length_eq_zero (by simpa using hne.symm)
      obtain ⟨bo, bcap, rfl, _, _⟩ := hb
      go_enter Try.func13, Try.ntmps13
      go_wp2
      refine wp_loop_rounds 1 ?_
      rw [rounds_succ]
      go_wp2
      go_ret
      exact ⟨rfl, Below.refl _ _⟩
    · rcases rd_cases hb with ⟨h0, ao, cap', rfl⟩ | ⟨hp', b', off', cap', rfl, _, hlt', hc'⟩
      · have hx : ys = [] := by simpa using h0
        subst hx
        simp at hne
        subst hne
        simp at hp
      · rw [hla] at hc hp ⊢
        rw [hlb] at hc' hp' ⊢
        have hca : ∀ j, j < xs.length → w.cell? ⟨b, off + j, none⟩ = some (.int .i64 (xs.getD j 0)) := fun j hj => (hc j hj).trans (ints_get _ xs j hj)
        have hcb : ∀ j, j < ys.length → w.cell? ⟨b', off' + j, none⟩ = some (.int .i64 (ys.getD j 0)) := fun j hj => (hc' j hj).trans (ints_get _ ys j hj)
        obtain ⟨n, hn⟩ : ∃ n, n = ys.length := ⟨_, rfl⟩
        rw [← hn] at hne ⊢
        rw [hne]
        have HN : Hid (n = ys.length) := hn
        have HX : Hid (xs.length = n) := hne
        have hnb : n ≤ 140737488355328 := by omega
        have HA : Hid (∀ j, j < n → w.cell? ⟨b, off + j, none⟩ = some (.int .i64 (xs.getD j 0))) := fun j hj => hca j (by omega)
        have HB : Hid (∀ j, j < n → w.cell? ⟨b', off' + j, none⟩ = some (.int .i64 (ys.getD j 0))) := fun j hj => hcb j (by omega)
        clear hc hc' hla hlb hca hcb hp hp' hl hl2 hne hn ha hb
        go_enter Try.func13, Try.ntmps13
        go_wp2
        go_loopw [5] (fun i wr => ∃ k d : Nat, k ≤ n ∧ i = .int .i64 k ∧ wr = w.drewN d ∧ xs.take k = ys.take k) (fun i _ => n - (intOf i).toNat)
        case atStart => exact ⟨0, 0, Nat.zero_le _, rfl, rfl, rfl⟩
        case round =>
          obtain ⟨k, d, hk, rfl, rfl, he⟩ := hrel
          have HE : Hid (xs.take k = ys.take k) := he
          clear he
          by_cases hlt : k < n
          · have hca := HA.out k hlt
            have hcb := HB.out k hlt
            by_cases hxy : xs.getD k 0 = ys.getD k 0
            · rw [hxy] at hca
              have hnq : (ys.getD k 0 != ys.getD k 0) = false := by simp
              obtain ⟨z, hz⟩ : ∃ z, z = ys.getD k 0 := ⟨_, rfl⟩
              rw [← hz] at hca hcb hnq
              have HZ : Hid (z = ys.getD k 0 ∧ xs.getD k 0 = ys.getD k 0) := ⟨hz, hxy⟩
              clear hz hxy
              go_wp2
              go_quiet (fail)
              go_wp2
              go_roundw
              case rel =>
                refine ⟨k + 1, _, by omega, by go_num, rfl, ?_⟩
                have h1 := HX.out
                have h2 := HN.out
                rw [take_snoc xs 0 k (by omega), take_snoc ys 0 k (by omega), HE.out, HZ.out.2]
              case measure => simp [intOf]; omega
            · have hnq : (xs.getD k 0 != ys.getD k 0) = true := by simpa using hxy
              obtain ⟨z, hz⟩ : ∃ z, z = ys.getD k 0 := ⟨_, rfl⟩
              obtain ⟨y, hy⟩ : ∃ y, y = xs.getD k 0 := ⟨_, rfl⟩
              rw [← hz] at hcb hnq
              rw [← hy] at hca hnq
              have HZ : Hid (z = ys.getD k 0 ∧ y = xs.getD k 0 ∧ ¬ xs.getD k 0 = ys.getD k 0) := ⟨hz, hy, hxy⟩
              clear hz hy hxy
              go_wp2
              go_quiet (fail)
              go_wp2
              go_ret
              refine ⟨?_, below_drewN (below_drewN (Below.refl _ _) _) _⟩
              have hf : ¬ xs = ys := by intro h; apply HZ.out.2.2; rw [h]
              rw [decide_eq_false hf]
              rfl
          · go_wp2
            go_ret
            refine ⟨?_, below_drewN (Below.refl _ _) _⟩
            have h1 := HX.out
            have h2 := HN.out
            have ht : xs = ys := by
              have h3 := HE.out
              rwa [List.take_of_length_le (by omega), List.take_of_length_le (by omega)] at h3
            rw [decide_eq_true ht]
            rfl
  · obtain ⟨ao, cap, rfl, _, _⟩ := ha
    obtain ⟨bo, bcap, rfl, _, _⟩ := hb
    rw [hla, hlb]
    have hnq : ((xs.length : Int) != (ys.length : Int)) = true := by rw [bne_iff_ne]; omega
    have hf : ¬ xs = ys := by intro h; apply hne; rw [h]
    rw [decide_eq_false hf]
    clear hf hne hla hlb
    go_enter Try.func13, Try.ntmps13
    go_wp2
    go_ret
    exact ⟨rfl, Below.refl _ _⟩

/-- what markInt64S lays from m on -/
def marksInt64S (m n : Nat) : List Int := (List.range n).map fun (j : Nat) => ((m : Int) + (j : Int))
theorem marksInt64S_len (m n : Nat) : (marksInt64S m n).length = n := by simp [marksInt64S]
theorem marksInt64S_succ (m k : Nat) : marksInt64S m (k + 1) = marksInt64S m k ++ [((m : Int) + (k : Int))] := by simp [marksInt64S, List.range_succ]
theorem marksInt64S_get (m n j : Nat) (h : j < n) : (marksInt64S m n).getD j 0 = ((m : Int) + (j : Int)) := by simp [marksInt64S, List.getD, h]
theorem marksInt64S_step (m k : Nat) (xs : List Int) (h : k < xs.length) : ((cellsInt64S (marksInt64S m k ++ xs.drop k)).set k (.int .i64 (((m : Int) + (k : Int))))) = cellsInt64S (marksInt64S m (k + 1) ++ xs.drop (k + 1)) := by
  have hd : xs.drop k = xs[k] :: xs.drop (k + 1) := List.drop_eq_getElem_cons h
  rw [marksInt64S_succ, hd]
  have e : (cellsInt64S (marksInt64S m k)).length = k := by simp [marksInt64S_len]
  have e2 : cellsInt64S (marksInt64S m k ++ xs[k] :: xs.drop (k + 1)) = cellsInt64S (marksInt64S m k) ++ (Value.int .i64 xs[k] :: cellsInt64S (xs.drop (k + 1))) := by rw [cellsInt64S, List.map_append, List.map_cons]
  rw [e2, List.set_append_right _ _ (by omega), e, Nat.sub_self, List.set_cons_zero]
  simp

theorem markInt64S_any (base : Nat) (v : Value) (m : Nat) (xs : List Int) (w : World) (hown : w.ownsRow base 2 1 v xs.length (cellsInt64S xs)) (hl : xs.length ≤ 140737488355328) (hm : m ≤ 140737488355328) :
    Calls Try.prog 15 #[v, .int .i64 (m : Int)] w fun e w' => e = .returned (.int .i64 ((m : Int) + (xs.length : Int))) ∧ w'.ownsRow base 2 1 v xs.length (cellsInt64S (marksInt64S m xs.length)) ∧ w.grownBy w' v.ownBlock := by
  rcases hown.2 with ⟨hv, h0⟩ | ⟨g, cap, cur, hv, _, hh, hn, _⟩
  · have hx : xs = [] := List.eq_nil_of_length_eq_zero h0
    subst hx hv
    go_enter Try.func15, Try.ntmps15
    go_wp2
    refine wp_loop_rounds 1 ?_
    rw [rounds_succ]
    go_wp2
    go_ret
    exact ⟨by simp, by simpa [marksInt64S] using hown, World.grownBy.refl _ _⟩
  · subst hv
    obtain ⟨n, hnx⟩ : ∃ n, n = xs.length := ⟨_, rfl⟩
    rw [← hnx] at hown hl ⊢
    have HX : Hid (n = xs.length) := hnx
    clear hh hn hnx
    go_enter Try.func15, Try.ntmps15
    go_wp2
    go_loopw [1, 5] (fun q i wr => ∃ k : Nat, k ≤ n ∧ q = .int .i64 ((m : Int) + (k : Int)) ∧ i = .int .i64 k ∧ wr.ownsRow base 2 1 (.slice (some ⟨g, 0, none⟩) n cap) n (cellsInt64S (marksInt64S m k ++ xs.drop k)) ∧ w.grownBy wr (some g)) (fun _ i _ => n - (intOf i).toNat)
    case atStart => exact ⟨0, Nat.zero_le _, by simp, rfl, by simpa [marksInt64S] using hown, World.grownBy.refl _ _⟩
    case round =>
      obtain ⟨k, hk, rfl, rfl, ho, hg⟩ := hrel
      have hx := HX.out
      by_cases hlt : k < n
      · have hc : wr.cell? ⟨g, k, none⟩ = some (.int .i64 ((marksInt64S m k ++ xs.drop k).getD k 0)) := (ho.cellAt k (by omega)).trans (ints_get _ _ k (by simp [marksInt64S_len]; omega))
        have hf := ho.frozenAt k
        have hst := ho.stored k (.int .i64 (((m : Int) + (k : Int))))
        rw [marksInt64S_step m k xs (by omega)] at hst
        have HS := hst
        obtain ⟨u, hu⟩ : ∃ u, u = Value.int .i64 ((marksInt64S m k ++ xs.drop k).getD k 0) := ⟨_, rfl⟩
        rw [← hu] at hc
        clear hx hst hu
        obtain ⟨hs1, hs2⟩ := HS
        go_wp2
        go_roundw
        case rel => exact ⟨k + 1, by omega, by go_num, by go_num, hs1, grown_trans hg hs2⟩
        case measure => simp [intOf]; omega
      · obtain rfl : k = n := by omega
        go_wp2
        go_ret
        refine ⟨rfl, ?_, hg⟩
        rw [List.drop_of_length_le (by omega), List.append_nil] at ho
        exact ho

theorem markInt64S_one (base : Nat) (v : Value) (xs : List Int) (w : World) (hown : w.ownsRow base 2 1 v xs.length (cellsInt64S xs)) (hl : xs.length ≤ 140737488355328) :
    Calls Try.prog 15 #[v, .int .i64 1] w fun e w' => e = .returned (.int .i64 (1 + (xs.length : Int))) ∧ w'.ownsRow base 2 1 v xs.length (cellsInt64S (marksInt64S 1 xs.length)) ∧ w.grownBy w' v.ownBlock :=
  markInt64S_any base v 1 xs w hown hl (by decide)

theorem Try.infoInt64S : (Try.prog.info? 2).map (fun i => (i.zero, i.size, i.bytes)) = some (some (.int .i64 0), 1, 8) := by kernel_rfl

theorem toInt64S_step (xs : List Int) (n k : Nat) (h : k < xs.length) (hn : k < n) : ((cellsInt64S (xs.take k ++ List.replicate (n - k) 0)).set k (.int .i64 (xs.getD k 0))) = cellsInt64S (xs.take (k + 1) ++ List.replicate (n - (k + 1)) 0) := by
  have e : (cellsInt64S (xs.take k)).length = k := by simp; omega
  have e1 : n - k = (n - (k + 1)) + 1 := by omega
  have e2 : cellsInt64S (xs.take k ++ List.replicate (n - k) 0) = cellsInt64S (xs.take k) ++ (Value.int .i64 0 :: cellsInt64S (List.replicate (n - (k + 1)) 0)) := by rw [e1, List.replicate_succ, cellsInt64S, List.map_append, List.map_cons]
  rw [e2, List.set_append_right _ _ (by omega), e, Nat.sub_self, List.set_cons_zero, take_snoc xs 0 k h]
  simp

theorem toInt64S_any (va : Value) (xs : List Int) (w : World) (ha : Rd w va (cellsInt64S xs)) (hl : xs.length ≤ 1048576) :
    Calls Try.prog 10 #[va] w fun e w' => ∃ v, e = .returned v ∧ w'.ownsRow w.heap.size 2 1 v xs.length (cellsInt64S xs) ∧ Below w.heap.size w w' := by
  obtain ⟨i0, hi, hz0, hz1, hz2⟩ := info_parts Try.infoInt64S
  have hla : (cellsInt64S xs).length = xs.length := by simp
  rcases rd_cases ha with ⟨h0, ao, cap, rfl⟩ | ⟨hp, b, off, cap, rfl, _, hlt, hc⟩
  · have hx : xs = [] := by simpa using h0
    subst hx
    go_enter Try.func10, Try.ntmps10
    go_wp2_with (at_make; refine wpList_make_full _ rfl _ _ 25 rfl w.heap.size 2 i0 (.int .i64 0) 1 Try.underlying25 hi hz0 hz1 _ _ _ _ 0 rfl rfl (by omega) (by omega) (by omega) (by decide) ?c0 ?_)
    case c0 => exact Nat.le_refl _
    intro w0 hmade hg0
    have hb0 : Below w.heap.size w w0 := (Below.refl _ _).grown hg0 (Nat.le_refl _) (fun k hk => by cases hk)
    clear hg0
    go_wp2
    refine wp_loop_rounds 1 ?_
    rw [rounds_succ]
    go_wp2
    go_ret
    exact ⟨_, rfl, by simpa [toList_madeCells_one] using hmade, hb0⟩
  · rw [hla] at hc hp ⊢
    obtain ⟨n, hn⟩ : ∃ n, n = xs.length := ⟨_, rfl⟩
    rw [← hn] at hc hp hl ⊢
    have HN : Hid (n = xs.length) := hn
    have HA : Hid (∀ j, j < n → w.cell? ⟨b, off + j, none⟩ = some (.int .i64 (xs.getD j 0))) := fun j hj => (hc j hj).trans (ints_get _ xs j (by omega))
    clear hc hla ha hn
    go_enter Try.func10, Try.ntmps10
    go_wp2_with (at_make; refine wpList_make_full _ rfl _ _ 25 rfl w.heap.size 2 i0 (.int .i64 0) 1 Try.underlying25 hi hz0 hz1 _ _ _ _ n rfl rfl rfl rfl (by rw [hz2]; omega) (by unfold maxLen; omega) ?c1 ?_)
    case c1 => exact Nat.le_refl _
    intro w0 hmade hg0
    have hb0 : Below w.heap.size w w0 := (Below.refl _ _).grown hg0 (Nat.le_refl _) (fun k hk => by cases hk)
    have hm2 : w0.ownsRow w.heap.size 2 1 (.slice (some ⟨w.heap.size, 0, none⟩) n n) n (cellsInt64S (xs.take 0 ++ List.replicate (n - 0) 0)) := by
      have h := hmade
      rw [toList_madeCells_one] at h
      simpa using h
    clear hg0 hmade
    go_wp2
    go_loopw [4] (fun i wr => ∃ k : Nat, k ≤ n ∧ i = .int .i64 k ∧ wr.ownsRow w.heap.size 2 1 (.slice (some ⟨w.heap.size, 0, none⟩) n n) n (cellsInt64S (xs.take k ++ List.replicate (n - k) 0)) ∧ Below w.heap.size w wr) (fun i _ => n - (intOf i).toNat)
    case atStart => exact ⟨0, Nat.zero_le _, rfl, hm2, hb0⟩
    case round =>
      obtain ⟨k, hk, rfl, ho, hb⟩ := hrel
      clear hb0 hm2
      by_cases hltk : k < n
      · have hx := HN.out
        have hc : wr.cell? ⟨w.heap.size, k, none⟩ = some (.int .i64 ((xs.take k ++ List.replicate (n - k) 0).getD k 0)) := (ho.cellAt k (by omega)).trans (ints_get _ _ k (by simp; omega))
        have hf := ho.frozenAt k
        have hst := ho.stored k (.int .i64 (xs.getD k 0))
        rw [toInt64S_step xs n k (by omega) hltk] at hst
        obtain ⟨hs1, hs2⟩ := hst
        have hca : wr.cell? ⟨b, off + k, none⟩ = some (.int .i64 (xs.getD k 0)) := (hb.cell (p := ⟨b, off + k, none⟩) hlt).trans (HA.out k hltk)
        obtain ⟨u, hu⟩ : ∃ u, u = Value.int .i64 ((xs.take k ++ List.replicate (n - k) 0).getD k 0) := ⟨_, rfl⟩
        rw [← hu] at hc
        obtain ⟨x, hxx⟩ : ∃ x, x = xs.getD k 0 := ⟨_, rfl⟩
        rw [← hxx] at hca hs1 hs2
        have hb2 : Below w.heap.size w (wr.setCell ⟨w.heap.size, k, none⟩ (.int .i64 x)) := hb.setCell (Nat.le_refl _) _
        have hne : ¬ w.heap.size = b := by omega
        clear hx hu hxx ho
        go_wp2
        go_roundw
        case rel => exact ⟨k + 1, by omega, by go_num, hs1, hb2⟩
        case measure => simp [intOf]; omega
      · obtain rfl : k = n := by omega
        have hx := HN.out
        rw [List.take_of_length_le (by omega), Nat.sub_self, List.replicate_zero, List.append_nil] at ho
        clear hx
        go_wp2
        go_ret
        exact ⟨_, rfl, ho, hb⟩

end Go.Proofs.Ytfoncmeplofedaq
