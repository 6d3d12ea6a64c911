/- CONTRACT: the program's own: a row of blobs once more, in memory of its own. -/
import Derived.Test.YtfoncmeplofedaqGreatDoorBunb
namespace Go.Proofs.YtfoncmeplofedaqGreatDoor
open Go.RowKit
set_option linter.unusedVariables false
set_option maxHeartbeats 2000000 in
set_option maxRecDepth 100000 in
theorem ownBl_any (va : Value) (xs : List Bl) (w : World) (ha : RdB w va xs) (hl : xs.length ≤ 1048576) (hs : ∀ p ∈ xs, p.2.size ≤ 281474976710656) :
    Calls Tryz.prog 128 #[va] w fun e w' => ∃ g, e = .returned (.slice (some ⟨g, 0, none⟩) xs.length xs.length) ∧ w'.ownsRow w.heap.size 67 2 (.slice (some ⟨g, 0, none⟩) xs.length xs.length) xs.length (blC xs) ∧ Below w.heap.size w w' := by
  obtain ⟨i0, hi, hz0, hz1, hz2⟩ := info_parts Tryz.infoBl
  rcases rdB_cases ha with ⟨h0, ao, cap, rfl⟩ | ⟨hp, b, off, cap, rfl, _, hlt, hc⟩
  · subst h0
    go_enter Tryz.func128, Tryz.ntmps128
    go_wp2_with (at_make; refine wpList_make_full _ rfl _ _ 129 rfl w.heap.size 67 i0 (.agg #[.int .i64 0, .string ⟨#[]⟩]) 2 Tryz.underlying129 hi hz0 hz1 _ _ _ _ 0 rfl rfl (by omega) (by omega) (by omega) (by decide) ?c0 ?_)
    case c0 => exact Nat.le_refl _
    intro w0 hmade hg0
    have hb0 : Below w.heap.size w w0 := (Below.refl _ _).grown hg0 (Nat.le_refl _) (fun k hk => by cases hk)
    have hmade2 : w0.ownsRow w.heap.size 67 2 (.slice (some ⟨w.heap.size, 0, none⟩) 0 0) 0 (blC []) := by
      have h := hmade
      simpa [madeCells, blC] using h
    clear hg0 hmade
    go_wp2
    refine wp_loop_rounds 1 ?_
    rw [rounds_succ]
    go_wp2
    go_ret
    exact ⟨_, rfl, hmade2, hb0⟩
  · have HS : Hid (∀ i, i < xs.length → (xs.getD i bl0).2.size ≤ 281474976710656) := fun i hi => by
      rw [getD_at hi]
      exact hs _ (List.getElem_mem hi)
    obtain ⟨n, hn⟩ : ∃ n, n = xs.length := ⟨_, rfl⟩
    rw [← hn] at hc hp hl HS ⊢
    have HN : Hid (n = xs.length) := hn
    have HA := Lib.hid hc
    clear hc ha hn hs
    have mo := fun z W => meth_own z W
    go_enter Tryz.func128, Tryz.ntmps128
    go_wp2_with (at_make; refine wpList_make_full _ rfl _ _ 129 rfl w.heap.size 67 i0 (.agg #[.int .i64 0, .string ⟨#[]⟩]) 2 Tryz.underlying129 hi hz0 hz1 _ _ _ _ n rfl rfl rfl rfl (by rw [hz2]; omega) (by unfold maxLen; omega) ?c1 ?_)
    case c1 => exact Nat.le_refl _
    intro w0 hmade hg0
    have hb0 : Below w.heap.size w w0 := (Below.refl _ _).grown hg0 (Nat.le_refl _) (fun k hk => by cases hk)
    have hm2 : w0.ownsRow w.heap.size 67 2 (.slice (some ⟨w.heap.size, 0, none⟩) n n) n (blC (xs.take 0 ++ List.replicate (n - 0) blZ)) := by
      have h := hmade
      first | rw [made_blobs2 n] at h | rw [made_blobs n] at h
      simpa using h
    clear hg0 hmade
    go_wp2
    go_loopw [11] (fun i wr => ∃ k : Nat, k ≤ n ∧ i = .int .i64 k ∧ wr.ownsRow w.heap.size 67 2 (.slice (some ⟨w.heap.size, 0, none⟩) n n) n (blC (xs.take k ++ List.replicate (n - k) blZ)) ∧ Hid (Below w.heap.size w wr)) (fun i _ => n - (intOf i).toNat)
    case atStart => exact ⟨0, Nat.zero_le _, rfl, hm2, hb0⟩
    case round =>
      rename World => w1
      obtain ⟨k, hk, rfl, ho, hb⟩ := hrel
      clear hb0 hm2
      have hs1 := hb.out.size
      by_cases hltk : k < n
      · have hkx : k < xs.length := by have := HN.out; omega
        obtain ⟨c0, c1⟩ := HA.out k hltk
        have d0 := (hb.out.cell (p := ⟨b, off + k * 2, none⟩) hlt).trans c0
        have d1 := (hb.out.cell (p := ⟨b, off + k * 2 + 1, none⟩) hlt).trans c1
        have hstep := copied_step (n := n) hkx hltk blZ
        have hsz := HS.out k hltk
        obtain ⟨x, hxx⟩ : ∃ x, x = xs.getD k bl0 := ⟨_, rfl⟩
        rw [← hxx] at d0 d1 hstep hsz
        obtain ⟨x1, x2⟩ := x
        simp only at hsz
        have HST := Lib.hid hstep
        clear hxx c0 c1 hstep
        have hcall := Lib.hid (fun W => blOwn_any x1 x2 W hsz)
        clear hsz
        go_wp2_with fail
        refine (hcall.out _).mono ?_
        rintro e w2 ⟨rfl, hb2⟩
        have hb3 : Below w1.heap.size w1 w2 := by
          have h : Below w1.heap.size w1 (w1.alloc (.cells #[.int .i64 x1, .string x2] 67)) := (Below.refl _ _).alloc (Nat.le_refl _) _
          exact h.trans (hb2.mono h.size)
        have ho2 := owns_below ho hb3
        have HB2 := Lib.hid (hb.out.trans (hb3.mono hs1))
        have hll : (xs.take k ++ List.replicate (n - k) blZ).length = n := by rw [List.length_append, List.length_take, List.length_replicate]; omega
        obtain ⟨e0, e1⟩ := blC_get (xs.take k ++ List.replicate (n - k) blZ) k (by omega)
        have f0 := ho2.cellAt (k * 2) (by omega)
        have f1 := ho2.cellAt (k * 2 + 1) (by omega)
        rw [e0] at f0
        rw [e1] at f1
        have z0 := ho2.frozenAt (k * 2)
        have z1 := ho2.frozenAt (k * 2 + 1)
        have hst1 := ho2.stored (k * 2) (.int .i64 x1)
        have hst2 := hst1.1.stored (k * 2 + 1) (.string x2)
        rw [blC_set _ k (x1, x2) (by omega), HST.out] at hst2
        have HO := Lib.hid hst2.1
        have HG := Lib.hid (grown_trans hst1.2 hst2.2)
        obtain ⟨u0, hu0⟩ : ∃ u0, u0 = ((xs.take k ++ List.replicate (n - k) blZ).getD k bl0).1 := ⟨_, rfl⟩
        obtain ⟨u1, hu1⟩ : ∃ u1, u1 = ((xs.take k ++ List.replicate (n - k) blZ).getD k bl0).2 := ⟨_, rfl⟩
        rw [← hu0] at f0
        rw [← hu1] at f1
        clear hcall hb2 hb3 ho ho2 hst1 hst2 e0 e1 hu0 hu1 hll hb d0 d1
        go_wp2
        go_roundw
        case rel => exact ⟨k + 1, by omega, by go_num, HO.out, HB2.out.grown HG.out HB2.out.size (fun g h => by cases h; exact Nat.le_refl _)⟩
        case measure => simp [intOf]; omega
      · obtain rfl : k = n := by omega
        have hx := HN.out
        rw [List.take_of_length_le (by omega), Nat.sub_self, List.replicate_zero, List.append_nil] at ho
        clear hx
        go_wp2
        go_ret
        exact ⟨_, rfl, ho, hb.out⟩
end Go.Proofs.YtfoncmeplofedaqGreatDoor
