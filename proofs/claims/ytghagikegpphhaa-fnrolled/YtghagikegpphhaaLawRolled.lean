/- FnRolled: rolled from window to window it is the number of each, and that of two texts is made of both. For every code, without a condition. -/
import Derived.Test.YtghagikegpphhaaDrawsR
import Derived.Test.YtghagikegpphhaaWindows
import Derived.Test.YtghagikegpphhaaLikeI
import Derived.Test.YtghagikegpphhaaPick
import Derived.Test.YtghagikegpphhaaArgs
import Derived.Deep.RegionHeld
namespace Go.Proofs.Ytghagikegpphhaa.fnRolled
open Go.ChangeShapes Go.WideShapes Go.ChangeAt Go.RowKit
set_option linter.unusedVariables false

/-- what is said of each place of the list -/
theorem rolls_at (s : ByteArray) (n : Int) (j : Nat) (hj : j < (rollsT s n).length) : ∃ m : Nat, n = (m : Int) ∧ 1 ≤ m ∧ m ≤ 16 ∧ j + m ≤ s.size ∧ ∀ k, k ≤ j → (rollsT s n).getD k 0 = wroll s m k := by
  unfold rollsT at hj ⊢
  by_cases h : (1 ≤ n ∧ n ≤ 16) ∧ s.size ≤ 20000
  · rw [if_pos h] at hj ⊢
    rw [rollsN_len] at hj
    refine ⟨n.toNat, by omega, by omega, by omega, by omega, fun k hk => rollsN_get _ _ _ _ (by omega)⟩
  · rw [if_neg h] at hj
    simp at hj

set_option maxHeartbeats 4000000 in
set_option maxRecDepth 100000 in
theorem walk (va : Value) (bs : List Int) (w : World) (ha : Rd w va (cellsByteS bs)) (hz : Bytes bs) (hlen : bs.length ≤ 9223372036854775807) :
    Calls Try.prog 6 #[va] w fun e w' => e = .returned (.bool true) ∧ Below w.heap.size w w' := by
  by_cases hbig : 4096 < (bs.length : Int)
  · obtain ⟨ao, cap, rfl, _, _⟩ := ha
    have hla : (cellsByteS bs).length = bs.length := by simp
    rw [hla]
    go_enter Try.func6, Try.ntmps6
    go_wp2
    go_ret
    exact ⟨rfl, Below.refl _ _⟩
  · have hl : bs.length ≤ 4096 := by omega
    have hbg : Calls Try.prog 7 #[va] w fun e w' => e = .returned (.bool false) ∧ w' = w := by
      obtain ⟨ao, cap, rfl, _, _⟩ := ha
      have hla : (cellsByteS bs).length = bs.length := by simp
      rw [hla]
      go_enter Try.func7, Try.ntmps7
      go_wp2
      go_ret
      exact ⟨by simp, rfl⟩
    go_enter Try.func6, Try.ntmps6
    go_wp2_with fail
    refine hbg.mono ?_
    rintro e w' ⟨rfl, hw'⟩
    replace hw' := hw'.symm
    subst hw'
    go_wp2_with fail
    refine (drawRolls_any va bs w ha hl hz).mono ?_
    rintro e w1 ⟨s, n, rfl, hs12, ⟨hn0, hn1⟩, hb1⟩
    have ha1 := rd_below ha hb1
    clear ha hbg hbig
    go_wp2_with fail
    refine (implRolls_any s n w1 (by omega) hn0 hn1).mono ?_
    rintro e w2 ⟨vl, rfl, hol, hb2⟩
    have hL := rollsT_len s n
    have HAT : Hid (∀ j, j < (rollsT s n).length → ∃ m : Nat, n = (m : Int) ∧ 1 ≤ m ∧ m ≤ 16 ∧ j + m ≤ s.size ∧ ∀ k, k ≤ j → (rollsT s n).getD k 0 = wroll s m k) := rolls_at s n
    have HSP : Hid (∀ w, Calls Try.prog 42 #[.string s, .int .i64 n] w fun e w' => ∃ v, e = .returned v ∧ w'.ownsRow w.heap.size 2 1 v (rollsT s n).length (cellsInt64S (rollsT s n)) ∧ Below w.heap.size w w') := fun w => specRolls_any s n w (by omega)
    obtain ⟨L, hLe⟩ : ∃ L, L = rollsT s n := ⟨_, rfl⟩
    rw [← hLe] at hol hL HAT HSP
    clear hLe
    have hrl := rd_owns hol
    have ha2 := rd_below ha1 hb2
    have hB2 := hb1.trans (hb2.mono hb1.size)
    clear ha1 hb1 hb2 hol
    go_wp2_with fail
    refine (drawRolled_any va bs w2 ha2 hl hz).mono ?_
    rintro e w3 ⟨h, o, i, m0, rfl, ⟨hm0, hm1⟩, hb3⟩
    have hrl3 := rd_below hrl hb3
    have ha3 := rd_below ha2 hb3
    have hB3 := hB2.trans (hb3.mono hB2.size)
    clear hrl ha2 hB2 hb3
    go_wp2_with fail
    refine (drawRoll_any va bs w3 ha3 hl hz).mono ?_
    rintro e w4 ⟨t, rfl, ht20, hb4⟩
    have hrl4 := rd_below hrl3 hb4
    have ha4 := rd_below ha3 hb4
    have hB4 := hB3.trans (hb4.mono hB3.size)
    clear hrl3 ha3 hB3 hb4
    go_wp2_with fail
    refine (drawPower_any va bs w4 ha4 hl hz).mono ?_
    rintro e w5 ⟨p, rfl, ⟨hp0, hp1⟩, hb5⟩
    have hrl5 := rd_below hrl4 hb5
    have ha5 := rd_below ha4 hb5
    have hB5 := hB4.trans (hb5.mono hB4.size)
    clear hrl4 ha4 hB4 hb5
    have q1 : (rolledT h o i m0 != rolledT h o i m0) = false := by simp
    have q2 : (roll t != roll t) = false := by simp
    have q3 : (powerF p != powerF p) = false := by simp
    go_wp2_with fail
    refine (HSP.out w5).mono ?_
    rintro e w6 ⟨vs, rfl, hos, hb6⟩
    have hrl6 := rd_below hrl5 hb6
    have ha6 := rd_below ha5 hb6
    have hB6 := hB5.trans (hb6.mono hB5.size)
    clear hrl5 ha5 hB5 hb6
    go_wp2_with fail
    refine (likeInts_any vl vs L L w6 hrl6 (rd_owns hos) (by omega) (by omega)).mono ?_
    rintro e w7 ⟨rfl, hb7⟩
    rw [decide_eq_true rfl]
    have hrl7 := rd_below hrl6 hb7
    have ha7 := rd_below ha6 hb7
    have hB7 := hB6.trans (hb7.mono hB6.size)
    clear hrl6 ha6 hB6 hb7 hos
    go_wp2_with fail
    refine (implRolled_any h o i m0 w7 hm0 hm1).mono ?_
    rintro e u ⟨rfl, hu⟩
    replace hu := hu.symm
    subst hu
    go_wp2_with fail
    refine (specRolled_any h o i m0 w7).mono ?_
    rintro e u ⟨rfl, hu⟩
    replace hu := hu.symm
    subst hu
    go_wp2_with fail
    refine (implRoll_any t w7 (by omega)).mono ?_
    rintro e u ⟨rfl, hu⟩
    replace hu := hu.symm
    subst hu
    go_wp2_with fail
    refine (specRoll_any t w7 (by omega)).mono ?_
    rintro e u ⟨rfl, hu⟩
    replace hu := hu.symm
    subst hu
    go_wp2_with fail
    refine (implPower_any p w7 hp0 hp1).mono ?_
    rintro e u ⟨rfl, hu⟩
    replace hu := hu.symm
    subst hu
    go_wp2_with fail
    refine (specPower_any p w7 hp0 hp1).mono ?_
    rintro e u ⟨rfl, hu⟩
    replace hu := hu.symm
    subst hu
    obtain ⟨ao, cap, rfl, hcap, hx⟩ := hrl7
    have hla : (cellsInt64S L).length = L.length := by simp
    rw [hla] at hcap hx ⊢
    have HX : Hid (0 < L.length → ∃ b off, ao = some ⟨b, off, none⟩ ∧ ∀ j, j < L.length → w7.cell? ⟨b, off + j, none⟩ = some (.int .i64 (L.getD j 0))) := fun hp => by
      obtain ⟨b, off, h1, _, h2⟩ := hx (by intro e; have := congrArg List.length e; rw [hla] at this; simp at this; rw [this] at hp; simp at hp)
      exact ⟨b, off, h1, fun j hj => (h2 j hj).trans (ints_get _ L j hj)⟩
    clear hx hla
    obtain ⟨N, hN⟩ : ∃ N, N = L.length := ⟨_, rfl⟩
    rw [← hN] at hL hcap HX HAT ⊢
    clear hN
    go_wp2
    go_loopw [12] (fun i wr => ∃ k d : Nat, k ≤ N ∧ i = .int .i64 k ∧ wr = w7.drewN d) (fun i _ => N - (intOf i).toNat)
    case atStart => exact ⟨0, 0, Nat.zero_le _, rfl, rfl⟩
    case round =>
      obtain ⟨k, d, hk, rfl, rfl⟩ := hrel
      by_cases hltk : k < N
      · obtain ⟨B, off, rfl, hcell⟩ := HX.out (by omega)
        obtain ⟨m, rfl, hm1', hm2', hkm, hval⟩ := HAT.out k hltk
        have hck := hcell k hltk
        rw [hval k (Nat.le_refl _)] at hck
        have hsl : ∀ W : World, (Instr.slice 9 (.string s) (some (.int .i64 (k : Int))) (some (.int .i64 ((k : Int) + (m : Int)))) none).run Try.prog W = .ok (.string (s.extract k (k + m))) W := fun W => by
          rw [run_slice_string _ 9 s .i64 .i64 _ _ Try.underlying9 (by omega) (by omega) (by omega)]
          rw [show ((k : Int)).toNat = k by omega, show ((k : Int) + (m : Int)).toNat = k + m by omega]
        have hwr := wroll_eq s m k
        have hts : (s.extract k (k + m)).size ≤ 9223372036854775807 := by rw [ByteArray.size_extract]; omega
        obtain ⟨u, hu⟩ : ∃ u, u = s.extract k (k + m) := ⟨_, rfl⟩
        rw [← hu] at hsl hwr hts
        clear hu
        by_cases hk0 : 0 < (k : Int)
        · obtain ⟨j, rfl⟩ : ∃ j, k = j + 1 := ⟨k - 1, by omega⟩
          have hcj := hcell j (by omega)
          rw [hval j (by omega)] at hcj
          have hwn := wroll_next s m j hm1' (by omega)
          have hix := str_at s j (by omega)
          have hiy := str_at s (j + m) (by omega)
          have hbx := byts_range s j
          have hby := byts_range s (j + m)
          have hwi := wroll_in s m j
          have hiy2 : ∀ W : World, (Instr.index 9 (.string s) (.int .i64 ((j : Int) + (m : Int)))).run Try.prog W = .ok (.int .u8 ((byts s).getD (j + m) 0)) W := fun W => by
            have := hiy W
            rwa [Int.natCast_add] at this
          have hsl2 : ∀ W : World, (Instr.slice 9 (.string s) (some (.int .i64 ((j : Int) + 1))) (some (.int .i64 ((j : Int) + 1 + (m : Int)))) none).run Try.prog W = .ok (.string u) W := fun W => by
            have := hsl W
            rwa [show (((j + 1 : Nat)) : Int) = (j : Int) + 1 by omega] at this
          have hjN : j < N := by omega
          have hjN1 : (j : Int) < (N : Int) := by omega
          have hj0 : (0 : Int) ≤ (j : Int) := by omega
          have hok : okR (wroll s m j) ((byts s).getD j 0) ((byts s).getD (j + m) 0) (m : Int) := ⟨hwi, hbx, hby, by omega, by omega⟩
          obtain ⟨y, hye⟩ : ∃ y, y = wroll s m j := ⟨_, rfl⟩
          rw [← hye] at hcj hwn hwi hok
          obtain ⟨a, hae⟩ : ∃ a, a = (byts s).getD j 0 := ⟨_, rfl⟩
          rw [← hae] at hix hbx hwn hok
          obtain ⟨b, hbe⟩ : ∃ b, b = (byts s).getD (j + m) 0 := ⟨_, rfl⟩
          rw [← hbe] at hiy2 hby hwn hok
          obtain ⟨x, hxe⟩ : ∃ x, x = wroll s m (j + 1) := ⟨_, rfl⟩
          rw [← hxe] at hck hwn hwr
          have hxx : (x != x) = false := by simp
          clear hye hae hbe hxe hiy hval hcell HX HAT
          go_wp2
          go_quiet (first
            | (go_at_call 45; refine (implRoll_any u _ hts).mono ?_; rintro e w8 ⟨rfl, rfl⟩; rw [hwr]; exact ⟨rfl, ⟨_, rfl⟩⟩)
            | (go_at_call 43; refine (implRolled_in y a b m _ hok).mono ?_; rintro e w8 ⟨rfl, rfl⟩; rw [hwn]; exact ⟨rfl, ⟨_, rfl⟩⟩))
          go_wp2
          go_roundw
          case rel => exact ⟨j + 1 + 1, _, by omega, by go_num, rfl⟩
          case measure => simp [intOf]; omega
        · obtain rfl : k = 0 := by omega
          obtain ⟨x, hxe⟩ : ∃ x, x = wroll s m 0 := ⟨_, rfl⟩
          rw [← hxe] at hck hwr
          rw [Nat.add_zero] at hck
          have hwm : IntKind.i64.wrap (m : Int) = (m : Int) := by
            rw [IntKind.wrap_i64]; omega
          have hsl2 : ∀ W : World, (Instr.slice 9 (.string s) (some (.int .i64 0)) (some (.int .i64 (m : Int))) none).run Try.prog W = .ok (.string u) W := fun W => by
            have := hsl W
            rwa [show ((0 : Nat) : Int) = 0 by omega, Int.zero_add] at this
          have hxx : (x != x) = false := by simp
          clear hxe hval hcell HX HAT
          go_wp2
          go_quiet (first
            | (go_at_call 45; refine (implRoll_any u _ hts).mono ?_; rintro e w8 ⟨rfl, rfl⟩; rw [hwr]; exact ⟨rfl, ⟨_, rfl⟩⟩))
          go_wp2
          go_roundw
          case rel => exact ⟨1, _, by omega, by go_num, rfl⟩
          case measure => simp [intOf]; omega
      · obtain rfl : k = N := by omega
        clear HX HAT
        have ha8 : Rd (w7.drewN d) va (cellsByteS bs) := rd_below ha7 (below_drewN (Below.refl _ _) _)
        have hB8 : Below w.heap.size w (w7.drewN d) := below_drewN hB7 _
        obtain ⟨w8, hw8⟩ : ∃ w8, w8 = w7.drewN d := ⟨_, rfl⟩
        rw [← hw8] at ha8 hB8 ⊢
        clear hw8 hB7 ha7 q1 q2 q3
        go_wp2_with fail
        refine (pick_any va bs 1 ((t.size : Int) + 1) w8 ha8 hl (codeR hz) (by omega) (by omega) (by omega) (by omega)).mono ?_
        rintro e w9 ⟨r, rfl, hr0, hr1, hb9⟩
        obtain ⟨r, rfl⟩ := Int.eq_ofNat_of_zero_le hr0
        have hB9 := hB8.trans (hb9.mono hB8.size)
        clear ha8 hB8 hb9 hz hlen hl hr0
        by_cases hbr : 16 < (t.size : Int) - (r : Int)
        focus
          go_wp2_with fail
          obtain ⟨z, hzz⟩ : ∃ z : Int, z = (t.size : Int) - 16 := ⟨_, rfl⟩
          have hc : ∃ c : Nat, z = (c : Int) ∧ c ≤ t.size ∧ t.size - c ≤ 16 := ⟨t.size - 16, by omega, by omega, by omega⟩
          rw [← hzz]
          clear hzz hbr
        rotate_left
        focus
          go_wp2_with fail
          obtain ⟨z, hzz⟩ : ∃ z : Int, z = (r : Int) := ⟨_, rfl⟩
          have hc : ∃ c : Nat, z = (c : Int) ∧ c ≤ t.size ∧ t.size - c ≤ 16 := ⟨r, by omega, by omega, by omega⟩
          rw [← hzz]
          clear hzz hbr
        all_goals
          obtain ⟨c, hzc, hc1, hc2⟩ := hc
          have hparts := roll_parts t c hc1
          have hsl1 : ∀ W : World, (Instr.slice 9 (.string t) none (some (.int .i64 z)) none).run Try.prog W = .ok (.string (t.extract 0 c)) W := fun W => by
            rw [hzc, run_slice_string_h W 9 t Try.underlying9 .i64 _ (by omega) (by omega), Int.toNat_natCast]
          have hsl2 : ∀ W : World, (Instr.slice 9 (.string t) (some (.int .i64 z)) none none).run Try.prog W = .ok (.string (t.extract c t.size)) W := fun W => by
            rw [hzc, run_slice_string_l W 9 t Try.underlying9 .i64 _ (by omega) (by omega), Int.toNat_natCast]
          have hP : powerF ((t.size : Int) - z) = pw (t.size - c) := by
            unfold powerF
            rw [if_pos (by omega), show ((t.size : Int) - z).toNat = t.size - c by omega]
          have hz0 : -9223372036854775808 ≤ (t.size : Int) - z := by omega
          have hz1 : (t.size : Int) - z ≤ 9223372036854775807 := by omega
          have hts : t.size ≤ 9223372036854775807 := by omega
          have ht1 : (t.extract 0 c).size ≤ 9223372036854775807 := by rw [ByteArray.size_extract]; omega
          have ht2 : (t.extract c t.size).size ≤ 9223372036854775807 := by rw [ByteArray.size_extract]; omega
          have hpi := pw_in (t.size - c)
          obtain ⟨P, hPe⟩ : ∃ P, P = pw (t.size - c) := ⟨_, rfl⟩
          rw [← hPe] at hP hparts hpi
          obtain ⟨t1, ht1e⟩ : ∃ t1, t1 = t.extract 0 c := ⟨_, rfl⟩
          rw [← ht1e] at hsl1 ht1 hparts
          obtain ⟨t2, ht2e⟩ : ∃ t2, t2 = t.extract c t.size := ⟨_, rfl⟩
          rw [← ht2e] at hsl2 ht2 hparts
          have hr1 := roll_in t1
          have hr2 := roll_in t2
          have hm0 := Int.mul_nonneg hr1.1 hpi.1
          have hm1 : roll t1 * P ≤ 4292870400 := by
            have := Int.mul_le_mul hr1.2 hpi.2 hpi.1 (by omega)
            omega
          have hq : (roll t == (roll t1 * P + roll t2) % 65521) = true := by rw [hparts]; simp
          obtain ⟨hr20, hr21⟩ := hr2
          clear hPe ht1e ht2e hparts hr1 hpi hzc hc1 hc2 ht20
          go_quiet (first
            | (go_at_call 45; refine (implRoll_any _ _ (by assumption)).mono ?_; rintro e u ⟨rfl, rfl⟩; exact ⟨rfl, ⟨_, rfl⟩⟩)
            | (go_at_call 47; refine (implPower_any _ _ hz0 hz1).mono ?_; rintro e u ⟨rfl, rfl⟩; exact ⟨rfl, ⟨_, rfl⟩⟩))
          clear hq hm0 hm1 hr20 hr21 hsl1 hsl2 hP hts ht1 ht2
          go_wp2
          go_ret
          exact ⟨rfl, below_drewN hB9 _⟩

set_option maxRecDepth 100000 in
theorem lifted (os : Os) (started : os.Started) (H : Type) (enc : TypeId × Value → H) :
    ReturnsInHanded {} Try.checked os 6 .any (Rows.fnRolledSpec.pre6 enc Try.prog Try.f6 Rows.fnRolledRow.domain false) (Rows.fnRolledSpec.post enc Try.prog Try.f6 false true false false) := by
  refine returnsInHanded_of_change (C := Try.checked) own started (by kernel_rfl) Try.func6
    (ChangeSpec.witness6 (enc := enc) (C := Try.checked) false ⟨#[], #[.slice none 0 0], []⟩ 8 (by kernel_rfl) (by kernel_rfl) (by kernel_rfl) (by kernel_rfl)) ?_
  intro W base args ds gs before hval0 hW hcnd _
  have hval : ∀ (j : Nat) t v, Try.f6.params[j]? = some t → args[j]? = some v → Value.okWide Try.prog W .any base t v := hval0
  have hW' := hW
  obtain ⟨p, q, hA0, hV, rfl, hfz, hnd⟩ := hW
  have hA : DataW.TrodAll enc Try.prog W 0 (fun _ => true) true Try.f6.params.toList args.toList ds p := hA0
  rw [Try.params6] at hA hval
  obtain ⟨v0, vs0, d0, ds0, p0, q0, hargs0, rfl, rfl, h0, r0⟩ := trodAll_cons hA
  obtain ⟨rfl, rfl, rfl⟩ := trodAll_nil r0
  obtain rfl : args = #[v0] := by cases args; simp_all
  obtain ⟨rfl, rfl⟩ := trodVars_none hV
  obtain ⟨a0, len0, cap0, rfl⟩ := okWide_slice Try.underlying22 (hval 0 22 v0 rfl rfl)
  have k0 := h0
  have lt0 : ∀ x ∈ p0, x.block < W.heap.size := by obtain ⟨m, hm⟩ := k0; exact DataW.trod_lt m _ _ _ hm
  obtain ⟨zs0, hr0, hs0⟩ : ∃ zs : List Int, Rd W (.slice a0 len0 cap0) (zs.map (Value.int .u8)) ∧ ((∀ n ∈ zs, (Lit.int .u8 n).wf = true) ∧ zs.length ≤ 9223372036854775807) := by
    obtain ⟨fuel, hf⟩ := h0
    rcases open_ints Try.underlying22 Try.underlying5 (by kernel_rfl) hf with ⟨hcs, _⟩ | ⟨x, l, c, zs, hcs, _, hl, hm, hz, _, hcell, hwz⟩
    · simp [Value.cells] at hcs
      obtain ⟨rfl, rfl, rfl⟩ := hcs
      exact ⟨[], ⟨none, 0, rfl, Nat.le_refl _, fun h => absurd rfl h⟩, (fun x hx => absurd hx List.not_mem_nil), Nat.zero_le _⟩
    · simp [Value.cells] at hcs
      obtain ⟨rfl, rfl, rfl⟩ := hcs
      exact arg_ints .u8 hl hm (by simpa using hz) hcell hwz
  clear hA0 hval0
  refine (walk _ zs0 W hr0 (wf_bytes hs0.1) hs0.2).mono fun e W' ⟨he, bel⟩ => ?_
  subst he
  exact ⟨_, rfl, _, _, _, [], _, [], hW', trodAll_mk1 (shut_bool Try.underlying4 _), (trodAll_cons_mk (Below.trod laidOut (by kernel_rfl) (of_decide_eq_true (by kernel_rfl)) k0 bel lt0) trodAll_mk0), rfl, bel.frame _, fun h => by cases h⟩

theorem over : Rows.fnRolledRow.holds Try.pinned (OpenSpec.ofChange Rows.fnRolledSpec) :=
  OpenClaim.holds_of_wide 6 Try.f6 rfl rfl rfl rfl rfl rfl rfl ⟨rfl, rfl, rfl, rfl, rfl⟩ rfl rfl rfl rfl rfl (by kernel_rfl) Try.func6 (by kernel_rfl)
    (of_decide_eq_true (by kernel_rfl)) (by unfold Func.isWrapper; first | (rw [if_pos (by decide +kernel)]; kernel_rfl) | (rw [if_neg (by decide +kernel)]; exact ⟨rfl, rfl⟩))
    (fun os started H enc _ => lifted os started H enc)

theorem proved : Rows.FnRolledSaid := over
end Go.Proofs.Ytghagikegpphhaa.fnRolled
