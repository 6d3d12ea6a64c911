/- CONTRACTS: spec.DrawNumber, DrawReadNumber, l1DrawList, DrawNumbers, DrawReadNumbers: whatever the code, some number, some bytes, some list, some text. -/
import Derived.Test.YtfoncmeplofedaaBend
import Derived.Test.YtfoncmeplofedaaNumbers
namespace Go.Proofs.Ytfoncmeplofedaa
open Go.RowKit

/-- the code of a law, as it came in -/
theorem bytes_all {bs : List Int} (h : Bytes bs) : ∀ j, 0 ≤ bs.getD j 0 ∧ bs.getD j 0 ≤ 255 := bytes_get h

theorem rd_drew {w : World} {v : Value} {xs : List Value} (h : Rd w v xs) : Rd w.drew v xs := h

theorem numB_bytes (n : Int) : Bytes (numB n) := by
  unfold numB
  split
  · exact enc_bytes _
  · exact fun x hx => absurd hx List.not_mem_nil

theorem pow_ok (r : Int) (h0 : 0 ≤ r) (h1 : r < 30) : wrap64 (2 ^ (1 + r).toNat) ≤ 4611686018427387903 := by
  have hk : (1 + r).toNat ≤ 30 := by omega
  have hp := Nat.pow_le_pow_right (n := 2) (by decide) hk
  have e : (2 : Nat) ^ 30 = 1073741824 := by decide
  have e2 : (2 : Int) ^ (1 + r).toNat = ((2 ^ (1 + r).toNat : Nat) : Int) := by rw [Int.natCast_pow]; rfl
  rw [e2]
  rw [e] at hp
  generalize (2 : Nat) ^ (1 + r).toNat = t at hp ⊢
  rw [IntWalk.wrap64_in _ ⟨by omega, by omega⟩]
  omega

abbrev nine : Array Value := #[.int .i64 (-1), .int .i64 0, .int .i64 127, .int .i64 128, .int .i64 16383, .int .i64 16384, .int .i64 1099511627776, .int .i64 1099511627777, .int .i64 (-9223372036854775808)]
theorem nine_get (j : Nat) (h : j < 9) : ∃ z, nine[j]? = some (.int .i64 z) := by
  rcases (show j = 0 ∨ j = 1 ∨ j = 2 ∨ j = 3 ∨ j = 4 ∨ j = 5 ∨ j = 6 ∨ j = 7 ∨ j = 8 by omega) with rfl | rfl | rfl | rfl | rfl | rfl | rfl | rfl | rfl <;> exact ⟨_, rfl⟩

set_option maxRecDepth 100000 in
theorem drawNumber_any (va : Value) (bs : List Int) (w : World) (ha : Rd w va (cellsByteS bs)) (hl : bs.length ≤ 4096) (hz : Bytes bs) :
    Calls Try.prog 9 #[va] w fun e w' => ∃ n : Int, e = .returned (.int .i64 n) ∧ Below w.heap.size w w' := by
  go_enter Try.func9, Try.ntmps9
  go_wp2_with fail
  refine (new_any va bs w ha hl (bytes_all hz)).mono ?_
  rintro e w1 ⟨rfl, hst1, hb1, hs1⟩
  go_wp2_with fail
  refine (once_any w.heap.size va bs 4 w1 hst1 hl (bytes_all hz) (by omega)).mono ?_
  rintro e w2 ⟨b, rfl, hst2, hg2⟩
  have hb2 : Below w.heap.size w w2 := hb1.grown hg2 (by omega) (fun k hk => by cases hk; exact Nat.le_refl _)
  have hs2 := hg2.size
  clear hst1
  cases b with
  | true =>
    have hst2' := st_below hst2 ((Below.refl (w.heap.size + 1) w2).alloc (by omega) (.cells nine 2))
    go_wp2_with fail
    refine (below_any w.heap.size va bs 9 _ hst2' hl (bytes_all hz) (by omega)).mono ?_
    rintro e w3 ⟨r, rfl, hr0, hr1, _, hst3, hg3⟩
    have hr2 := hr1 (by omega)
    obtain ⟨r, rfl⟩ := Int.eq_ofNat_of_zero_le hr0
    obtain ⟨z, hzr⟩ := nine_get r (by omega)
    have hcell : w3.cell? ⟨w2.heap.size, r, none⟩ = some (.int .i64 z) := by
      rw [World.cell?_of_block (w := w2.alloc (.cells nine 2)) (hg3.block w2.heap.size (by simp) (by simp; omega)), World.cell?_alloc_at _ _ _ _ rfl]
      exact hzr
    have hb3 : Below w.heap.size w w3 := (hb2.alloc (by omega) (.cells nine 2)).grown hg3 (by simp; omega) (fun k hk => by cases hk; exact Nat.le_refl _)
    clear hst2 hst2' hst3 hg3 hzr hz ha
    go_wp2
    go_ret
    exact ⟨_, rfl, hb3⟩
  | false =>
    go_wp2_with fail
    refine (below_any w.heap.size va bs 30 w2 hst2 hl (bytes_all hz) (by omega)).mono ?_
    rintro e w3 ⟨r, rfl, hr0, hr1, _, hst3, hg3⟩
    have hr2 := hr1 (by omega)
    have hpw := pow_ok r hr0 hr2
    have hb3 : Below w.heap.size w w3 := hb2.grown hg3 (by omega) (fun k hk => by cases hk; exact Nat.le_refl _)
    have hs3 := hg3.size
    go_wp2_with fail
    refine (below_any w.heap.size va bs _ w3 hst3 hl (bytes_all hz) hpw).mono ?_
    rintro e w4 ⟨q, rfl, _, _, _, hst4, hg4⟩
    have hb4 : Below w.heap.size w w4 := hb3.grown hg4 (by omega) (fun k hk => by cases hk; exact Nat.le_refl _)
    clear hst2 hst3 hst4 hg3 hg4 hz ha hpw
    go_wp2
    go_ret
    exact ⟨_, rfl, hb4⟩

set_option maxHeartbeats 1000000 in
set_option maxRecDepth 100000 in
theorem drawReadNumber_any (va : Value) (bs : List Int) (w : World) (ha : Rd w va (cellsByteS bs)) (hl : bs.length ≤ 4096) (hz : Bytes bs) :
    Calls Try.prog 11 #[va] w fun e w' => ∃ (v : Value) (d : List Int), e = .returned v ∧ Bytes d ∧ d.length ≤ 1000 ∧ Rd w' v (cellsByteS d) ∧ Below w.heap.size w w' ∧ ∃ g cap, v = .slice (some ⟨g, 0, none⟩) d.length cap := by
  go_enter Try.func11, Try.ntmps11
  go_wp2_with fail
  refine (new_any va bs w ha hl (bytes_all hz)).mono ?_
  rintro e w1 ⟨rfl, hst1, hb1, hs1⟩
  have hcb := st_lt hst1
  have ha1 := rd_drew (rd_below ha hb1)
  have HST1 : Hid (St w1 w.heap.size va bs) := hst1
  clear hst1
  go_wp2
  go_region_with (first
    | (go_at_call 9; refine (drawNumber_any va bs _ ha1 hl hz).mono ?_; rintro e w2 ⟨n, rfl, hb2⟩; have hb2w : Below w1.heap.size w1 w2 := (Below.refl w1.heap.size w1).drew.trans hb2)
    | (go_at_call 18; refine (specNumber_any n _).mono ?_; rintro e w3 ⟨v3, rfl, ho3, hb3⟩; have hstr := str_own ho3 (numB_bytes n); have hb3w : Below w1.heap.size w1 w3 := hb2w.trans (hb3.mono hb2w.size); have HST3 : Hid (St w3 w.heap.size va bs) := st_below HST1.out (hb3w.mono (by omega)))
    | (go_at_call 66; refine (drawText_any w.heap.size va bs 4 _ HST3.out hl (bytes_all hz) (by omega) (by omega)).mono ?_; rintro e w4 ⟨t, rfl, ht, hst4, hg4⟩; have hnl := numB_len n; have hadd : ∀ W : World, (Op.stringOp .add (asB (numB n)) t).run Try.prog W = .ok (.string (asB (numB n) ++ t)) W := (fun W => run_string_add_sum W _ _ (by rw [asB_size]; omega)); have hstr4 := str_own (owns_grown ho3 hg4 (fun i h h' => by cases h; have := (ho3.lt _ h').1; have := hb2w.size; omega)) (numB_bytes n); have HB4 : Hid (Below w.heap.size w w4) := (hb1.trans (hb3w.mono hb1.size)).grown hg4 (by have := hb3w.size; omega) (fun k hk => by cases hk; exact Nat.le_refl _)))
  all_goals
    have hsz : (asB (numB n) ++ t).size ≤ 10 := by rw [ByteArray.size_append, asB_size]; omega
    clear hstr hstr4 ho3 hb3 hb2 hb2w hb3w hg4
    go_wp2_with fail
    refine (bend_any w.heap.size va bs (asB (numB n) ++ t) ⟨#[0, 128, 255, 1]⟩ w4 hst4 hl (bytes_all hz) (by omega) (by decide) (by decide)).mono ?_
    rintro e w5 ⟨s5, rfl, hs5, hst5, hg5⟩
    have hb5 : Below w.heap.size w w5 := HB4.out.grown hg5 HB4.out.size (fun k hk => by cases hk; exact Nat.le_refl _)
    have hcv := run_bytes_of_string (P := Try.prog) w5 9 22 5 s5 Try.underlying9 Try.underlying22 Try.underlying5
    obtain ⟨cap, hcap⟩ : ∃ cap, cap = grownCap w5 s5.size 0 5 := ⟨_, rfl⟩
    have hge : s5.size ≤ cap := by rw [hcap]; exact grownCap_ge w5 s5.size 0 5
    rw [← hcap] at hcv
    have hrd := rd_conv (w := w5) hge ((bytesRow s5 cap).size, (bytesRow s5 cap).size + 1)
    obtain ⟨cs, hcs⟩ : ∃ cs, cs = bytesRow s5 cap := ⟨_, rfl⟩
    rw [← hcs] at hcv hrd
    have HRD : Hid (Rd (w5.drew.alloc (.cells cs 5 (cs.size, cs.size + 1))) (.slice (some ⟨w5.heap.size, 0, none⟩) s5.size cap) (cellsByteS (byts s5))) := hrd
    have HB : Hid (Below w.heap.size w (w5.drew.alloc (.cells cs 5 (cs.size, cs.size + 1)))) := hb5.drew.alloc hb5.size _
    clear hcap hcs hrd hst4 hst5 hg5 hadd
    go_wp2
    go_ret
    exact ⟨_, byts s5, rfl, byts_bytes s5, by rw [byts_len]; omega, HRD.out, HB.out, w5.heap.size, cap, by rw [byts_len]; rfl⟩

end Go.Proofs.Ytfoncmeplofedaa
