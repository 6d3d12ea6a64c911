/- CONTRACTS: the program's own: a impl.Dot, and a row of them once more in memory of its own. (Written by numg.py.) -/
import Derived.Test.YtjjaephhnlhnkacDoorNDtA
namespace Go.Proofs.YtjjaephhnlhnkacDoor
open Go.RowKit
set_option linter.unusedVariables false
theorem meth_ownDt (x : Array Value) (w : World) : (method 228 51 (.agg x) "loop.example/g00260/impl.own").run Tryd.prog w = .ok (97, .agg x) w := by kernel_rfl
theorem ownDt_any (x1 : Int) (x2 : Int) (w : World) :
    Calls Tryd.prog 97 #[.agg #[.int .i64 x1, .int .i64 x2]] w fun e w' => e = .returned (.agg #[.int .i64 x1, .int .i64 x2]) ∧ Below w.heap.size w w' := by
  have hb := (Below.refl w.heap.size w).alloc (Nat.le_refl _) (.cells #[.int .i64 x1, .int .i64 x2] 51)
  have hb2 := hb.alloc (show w.heap.size ≤ (w.alloc (.cells #[.int .i64 x1, .int .i64 x2] 51)).heap.size by rw [World.size_alloc]; omega) (.cells #[.int .i64 x1, .int .i64 x2] 51)
  go_enter Tryd.func97, Tryd.ntmps97
  go_wp2
  exact bodyPost_ret (v := .agg #[.int .i64 x1, .int .i64 x2]) (by simp [results, Tryd.results97, go_sem]) rfl ⟨rfl, by first | exact hb2 | exact hb⟩
theorem copiedDt {xs : List Dt} {n k : Nat} (h : k < xs.length) (hn : k < n) (z : Dt) : (xs.take k ++ List.replicate (n - k) z).set k (xs.getD k dt0) = xs.take (k + 1) ++ List.replicate (n - (k + 1)) z := by
  have e1 : n - k = (n - (k + 1)) + 1 := by omega
  have e2 : (xs.take k).length = k := by rw [List.length_take]; omega
  rw [e1, List.replicate_succ, List.set_append_right _ _ (by omega), e2, Nat.sub_self, List.set_cons_zero, List.take_succ_eq_append_getElem h, List.append_assoc]
  simp [List.getD, h]
set_option maxHeartbeats 2000000 in
set_option maxRecDepth 100000 in
theorem ownNDt_any (va : Value) (xs : List Dt) (w : World) (ha : RdG dtf 2 w va xs) (hl : xs.length ≤ 1048576) :
    Calls Tryd.prog 31 #[va] w fun e w' => ∃ g, e = .returned (.slice (some ⟨g, 0, none⟩) xs.length xs.length) ∧ OwnG dtf 2 51 w' w.heap.size (.slice (some ⟨g, 0, none⟩) xs.length xs.length) xs ∧ Below w.heap.size w w' := by
  obtain ⟨i0, hi, hz0, hz1, hz2⟩ := info_parts (dtYN).inf
  rcases rdG_cases ha with ⟨h0, ao, cap, rfl⟩ | ⟨hp, b, off, cap, rfl, _, hlt, hc⟩
  · subst h0
    clear ha
    go_enter Tryd.func31, Tryd.ntmps31
    go_wp2_with (at_make; refine wpList_make_full _ rfl _ _ 48 rfl w.heap.size 51 i0 (.agg #[.int .i64 0, .int .i64 0]) 2 (dtYN).und hi hz0 hz1 _ _ _ _ 0 rfl rfl (by omega) (by omega) (by omega) (by decide) ?c0 ?_)
    case c0 => exact Nat.le_refl _
    intro w0 hmade hg0
    have hb0 : Below w.heap.size w w0 := (Below.refl _ _).grown hg0 (Nat.le_refl _) (fun k hk => by cases hk)
    have hmade2 : w0.ownsRow w.heap.size 51 2 (.slice (some ⟨w.heap.size, 0, none⟩) 0 0) 0 (rowC dtf []) := by
      have h := hmade
      simpa [madeCells, rowC] using h
    clear hg0 hmade
    go_wp2
    refine wp_loop_rounds 1 ?_
    rw [rounds_succ]
    go_wp2
    go_ret
    exact ⟨_, rfl, hmade2, hb0⟩
  · obtain ⟨n, hn⟩ : ∃ n, n = xs.length := ⟨_, rfl⟩
    have HA := Lib.hid hc
    have HO9 : Hid (∀ (v : Value) (w9 : World), w9.ownsRow w.heap.size 51 2 v n (rowC dtf xs) → OwnG dtf 2 51 w9 w.heap.size v xs) := fun v w9 h => by rw [OwnG, ← hn]; exact h
    rw [← hn] at hp hl ⊢
    have HN : Hid (n = xs.length) := hn
    have mo := fun z W => meth_ownDt z W
    clear hc ha hn
    go_enter Tryd.func31, Tryd.ntmps31
    go_wp2_with (at_make; refine wpList_make_full _ rfl _ _ 48 rfl w.heap.size 51 i0 (.agg #[.int .i64 0, .int .i64 0]) 2 (dtYN).und hi hz0 hz1 _ _ _ _ n rfl rfl rfl rfl (by rw [hz2]; omega) (by unfold maxLen; omega) ?c1 ?_)
    case c1 => exact Nat.le_refl _
    intro w0 hmade hg0
    have hb0 : Below w.heap.size w w0 := (Below.refl _ _).grown hg0 (Nat.le_refl _) (fun k hk => by cases hk)
    have hm2 : w0.ownsRow w.heap.size 51 2 (.slice (some ⟨w.heap.size, 0, none⟩) n n) n (rowC dtf (xs.take 0 ++ List.replicate (n - 0) dt0)) := by
      have h := hmade
      have e9 := made_G dtW (dtYN).zero n
      first | rw [e9] at h | (simp only [Value.cells] at e9; rw [e9] at h)
      simpa using h
    clear hg0 hmade
    go_wp2
    go_loopw [11] (fun i wr => ∃ k : Nat, k ≤ n ∧ i = .int .i64 k ∧ wr.ownsRow w.heap.size 51 2 (.slice (some ⟨w.heap.size, 0, none⟩) n n) n (rowC dtf (xs.take k ++ List.replicate (n - k) dt0)) ∧ Hid (Below w.heap.size w wr)) (fun i _ => n - (intOf i).toNat)
    case atStart => exact ⟨0, Nat.zero_le _, rfl, hm2, hb0⟩
    case round =>
      rename World => w1
      obtain ⟨k, hk, rfl, ho, hb⟩ := hrel
      clear hb0 hm2
      have hs1 := hb.out.size
      by_cases hltk : k < n
      · have hkx : k < xs.length := by have := HN.out; omega
        obtain ⟨d0, d1⟩ := dt_cells (cellsG_below HA.out hlt hb.out) hkx
        have hll : (xs.take k ++ List.replicate (n - k) dt0).length = n := by rw [List.length_append, List.length_take, List.length_replicate]; omega
        have hlc : (rowC dtf (xs.take k ++ List.replicate (n - k) dt0)).length = n * 2 := by rw [rowC_len dtW, hll]
        have hset := dt_set (xs.take k ++ List.replicate (n - k) dt0) k (xs.getD k dt0) (by omega)
        rw [copiedDt hkx hltk dt0] at hset
        obtain ⟨x, hxx⟩ : ∃ x, x = xs.getD k dt0 := ⟨_, rfl⟩
        rw [← hxx] at d0 d1 hset
        obtain ⟨x1, x2⟩ := x
        simp only at d0 d1 hset
        have HSET := Lib.hid hset
        clear hxx hset
        have hcall := Lib.hid (fun W => ownDt_any x1 x2 W)
        go_wp2_with fail
        refine (hcall.out _).mono ?_
        rintro e w2 ⟨rfl, hb2⟩
        have hb3 : Below w1.heap.size w1 w2 := by
          have h : Below w1.heap.size w1 (w1.alloc (.cells #[.int .i64 x1, .int .i64 x2] 51)) := (Below.refl _ _).alloc (Nat.le_refl _) _
          exact h.trans (hb2.mono h.size)
        have ho2 := owns_below ho hb3
        have HB2 := Lib.hid (hb.out.trans (hb3.mono hs1))
        have f0 := ho2.cellAt (k * 2) (by omega)
        have f1 := ho2.cellAt (k * 2 + 1) (by omega)
        have z0 := ho2.frozenAt (k * 2)
        have z1 := ho2.frozenAt (k * 2 + 1)
        obtain ⟨u0, hu0⟩ : ∃ u0, (rowC dtf (xs.take k ++ List.replicate (n - k) dt0))[k * 2]? = some u0 := ⟨_, List.getElem?_eq_getElem (by omega)⟩
        rw [hu0] at f0
        obtain ⟨u1, hu1⟩ : ∃ u1, (rowC dtf (xs.take k ++ List.replicate (n - k) dt0))[k * 2 + 1]? = some u1 := ⟨_, List.getElem?_eq_getElem (by omega)⟩
        rw [hu1] at f1
        have hst1 := ho2.stored (k * 2) (.int .i64 x1)
        have hst2 := hst1.1.stored (k * 2 + 1) (.int .i64 x2)
        rw [HSET.out] at hst2
        have HO := Lib.hid hst2.1
        have HG := Lib.hid (grown_trans hst1.2 hst2.2)
        clear hcall hb2 hb3 ho ho2 hst1 hst2 hu0 hu1 hll hlc hb d0 d1
        go_wp2
        go_roundw
        case rel => exact ⟨k + 1, by omega, by go_num, HO.out, HB2.out.grown HG.out HB2.out.size (fun g h => by cases h; exact Nat.le_refl _)⟩
        case measure => simp [intOf]; omega
      · obtain rfl : k = n := by omega
        have hx := HN.out
        rw [List.take_of_length_le (by omega), Nat.sub_self, List.replicate_zero, List.append_nil] at ho
        have HO := Lib.hid (HO9.out _ _ ho)
        clear hx ho
        go_wp2
        go_ret
        exact ⟨_, rfl, by rw [HN.out]; have := HO.out; rwa [HN.out] at this, hb.out⟩
end Go.Proofs.YtjjaephhnlhnkacDoor
