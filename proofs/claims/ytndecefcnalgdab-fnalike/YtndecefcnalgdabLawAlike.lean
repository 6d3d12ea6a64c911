/- FnAlike: where two texts with one end are once cut at one place of it they are cut alike from there, and what comes behind changes no cut but the last. For every code, without a condition. -/
import Derived.Test.YtndecefcnalgdabDrawsE
import Derived.Test.YtndecefcnalgdabAlikeMath
import Derived.Test.YtndecefcnalgdabArgs
namespace Go.Proofs.Ytndecefcnalgdab.fnAlike
open Go.ChangeShapes Go.WideShapes Go.ChangeAt Go.RowKit
set_option linter.unusedVariables false

theorem has_any (va : Value) (l : List Int) (t : Int) (w : World) (ha : Rd w va (cellsInt64S l)) (hl : l.length ≤ 1099511627776) :
    Calls Try.prog 13 #[va, .int .i64 t] w fun e w' => e = .returned (.bool (l.contains t)) ∧ w' = w := by
  have hla : (cellsInt64S l).length = l.length := by simp
  obtain ⟨ao, cap, rfl, hcap, hx⟩ := ha
  rw [hla] at hcap hx ⊢
  have HX : Hid (∀ j, j < l.length → ∃ b off, ao = some ⟨b, off, none⟩ ∧ w.cell? ⟨b, off + j, none⟩ = some (.int .i64 (l.getD j 0))) := fun j hj => by
    obtain ⟨b, off, h1, h2, h3⟩ := hx (by intro h; rw [h] at hla; simp at hla; omega)
    exact ⟨b, off, h1, (h3 j hj).trans (ints_get _ l j hj)⟩
  have HC : Hid (l.contains t = true ↔ ∃ i, i < l.length ∧ l.getD i 0 = t) := contains_at l t
  clear hx hla
  generalize l.contains t = c at HC ⊢
  obtain ⟨n, hn⟩ : ∃ n, n = l.length := ⟨_, rfl⟩
  rw [← hn] at hcap HX HC hl ⊢
  clear hn
  go_enter Try.func13, Try.ntmps13
  go_wp2
  go_loop [5] (fun i => ∃ k : Nat, i = .int .i64 k ∧ k ≤ n ∧ Hid (∀ m, m < k → ¬ l.getD m 0 = t)) (fun i => n - (intOf i).toNat)
  case atStart => exact ⟨0, rfl, Nat.zero_le _, fun m h => by omega⟩
  case round =>
    obtain ⟨k, rfl, hk, h1⟩ := hrel
    by_cases hlt : k < n
    focus
      obtain ⟨b, off, rfl, hc⟩ := HX.out k hlt
      obtain ⟨x, hxx⟩ : ∃ x, x = l.getD k 0 := ⟨_, rfl⟩
      have HXX : Hid (x = l.getD k 0) := hxx
      rw [← hxx] at hc
      clear hxx
      by_cases hxt : x = t
      · have hct : Hid (c = true) := HC.out.2 ⟨k, hlt, by rw [← HXX.out]; exact hxt⟩
        subst hxt
        go_wp2
        go_ret
        exact ⟨by rw [hct.out]; rfl, rfl⟩
      · go_wp2
        go_round
        case rel => exact ⟨k + 1, by go_num, by omega, fun m hm => by
          rcases Nat.lt_or_ge m k with h | h
          · exact h1.out m h
          · obtain rfl : m = k := by omega
            rw [← HXX.out]; exact hxt⟩
        case measure => simp [intOf]; omega
    have hct : Hid (c = false) := by
      show _ = _
      cases c
      · rfl
      · obtain ⟨m, hm, e⟩ := HC.out.1 rfl
        exact absurd e (h1.out m (by omega))
    clear HX HC h1
    go_wp2
    go_ret
    exact ⟨by rw [hct.out]; rfl, rfl⟩

set_option maxHeartbeats 4000000 in
set_option maxRecDepth 100000 in
theorem walk (va : Value) (bs : List Int) (w : World) (ha : Rd w va (cellsByteS bs)) (hz : Bytes bs) (hlen : bs.length ≤ 9223372036854775807) :
    Calls Try.prog 3 #[va] w fun e w' => e = .returned (.bool true) ∧ Below w.heap.size w w' := by
  by_cases hbig : 4096 < (bs.length : Int)
  · obtain ⟨ao, cap, rfl, _, _⟩ := ha
    have hla : (cellsByteS bs).length = bs.length := by simp
    rw [hla]
    go_enter Try.func3, Try.ntmps3
    go_wp2
    go_ret
    exact ⟨rfl, Below.refl _ _⟩
  · have hl : bs.length ≤ 4096 := by omega
    have hbg : Calls Try.prog 4 #[va] w fun e w' => e = .returned (.bool false) ∧ w' = w := by
      obtain ⟨ao, cap, rfl, _, _⟩ := ha
      have hla : (cellsByteS bs).length = bs.length := by simp
      rw [hla]
      go_enter Try.func4, Try.ntmps4
      go_wp2
      go_ret
      exact ⟨by simp, rfl⟩
    go_enter Try.func3, Try.ntmps3
    go_wp2_with fail
    refine hbg.mono ?_
    rintro e w' ⟨rfl, hw'⟩
    replace hw' := hw'.symm
    subst hw'
    go_wp2_with fail
    refine (drawCuts_any va bs w ha hl hz).mono ?_
    rintro e w1 ⟨s, W, P, L, M, rfl, hs60, hb1⟩
    have hx2 := heap_alloc_new w1 (.cells #[.int .i64 W, .int .i64 P, .int .i64 L, .int .i64 M] 25)
    have hB2 := hb1.alloc hb1.size (.cells #[.int .i64 W, .int .i64 P, .int .i64 L, .int .i64 M] 25)
    have hs2 := World.size_alloc w1 (.cells #[.int .i64 W, .int .i64 P, .int .i64 L, .int .i64 M] 25)
    have ha2 := rd_below' ha hB2 (Nat.le_refl _)
    clear ha hbg hbig hlen hb1
    go_wp2_with fail
    refine (drawShared_any va bs _ ha2 hl hz).mono ?_
    rintro e w3 ⟨v1, v2, a, b, n, rfl, hal, hbl, hr1, hr2, hb3⟩
    have hx3 := (hb3.block w1.heap.size (by omega)).trans hx2
    have hB3 := hB2.trans (hb3.mono hB2.size)
    have ha3 := rd_below ha2 hb3
    have hs3 := hb3.size
    rw [hs2] at hs3
    clear hx2 hB2 hb3 hs2 ha2
    have hne : (sharedT a b n != sharedT a b n) = false := by simp
    have HIS := implShared_any v1 v2 a b n w3 hr1 hr2 (by omega) (by omega)
    have HSS := specShared_any v1 v2 a b n w3 hr1 hr2 (by omega) (by omega)
    generalize sharedT a b n = z at hne HIS HSS
    clear hr1 hr2 hal hbl
    go_wp2_with fail
    refine HIS.mono ?_
    rintro e u3 ⟨rfl, hu3⟩
    replace hu3 := hu3.symm
    subst hu3
    go_wp2_with fail
    refine HSS.mono ?_
    rintro e w4 ⟨rfl, hb4⟩
    have hx4 := (hb4.block w1.heap.size (by omega)).trans hx3
    have hB4 := hB3.trans (hb4.mono hB3.size)
    have ha4 := rd_below ha3 hb4
    have hs4 := hb4.size
    clear hx3 hB3 hb4 ha3 HIS HSS
    obtain ⟨d0, d1, d2, d3⟩ := rule_cells rfl hx4
    go_wp2_with fail
    refine (specRuleOk_any W P L M _).mono ?_
    rintro e w5 ⟨rfl, hb5⟩
    have hx5 := (hb5.block w1.heap.size (by omega)).trans hx4
    have hB5 := hB4.trans (hb5.mono hB4.size)
    have ha5 := rd_below ha4 hb5
    have hs5 := hb5.size
    clear hx4 hB4 hb5 ha4 d0 d1 d2 d3 hne
    cases hrB : ruleB W P L M with
    | false =>
      clear hx5 ha5
      go_wp2
      go_ret
      exact ⟨rfl, hB5⟩
    | true =>
      obtain ⟨W, L, M, rfl, rfl, rfl, hok⟩ := ruleB_ok hrB
      clear hrB
      go_wp2_with fail
      refine (words_any va bs 7 w5 ha5 hl (codeR hz) (by omega) (by omega)).mono ?_
      rintro e w6 ⟨wd, rfl, hwd1, hwd2, hb6⟩
      have hx6 := (hb6.block w1.heap.size (by omega)).trans hx5
      have hB6 := hB5.trans (hb6.mono hB5.size)
      have ha6 := rd_below ha5 hb6
      have hs6 := hb6.size
      clear hx5 hB5 hb6 ha5
      go_wp2_with fail
      refine (pick_any va bs 1 9 w6 ha6 hl (codeR hz) (by omega) (by omega) (by omega) (by omega)).mono ?_
      rintro e w7 ⟨p, rfl, hp0, hp1, hb7⟩
      obtain ⟨p, rfl⟩ := Int.eq_ofNat_of_zero_le hp0
      have hx7 := (hb7.block w1.heap.size (by omega)).trans hx6
      have hB7 := hB6.trans (hb7.mono hB6.size)
      have hs7 := hb7.size
      have hsl : ∀ W' : World, (Instr.slice 9 (.string wd) none (some (.int .i64 (p : Int))) none).run Try.prog W' = .ok (.string (wd.extract 0 p)) W' := fun W' => by
        rw [run_slice_string_h W' 9 wd Try.underlying9 .i64 _ (by omega) (by omega), Int.toNat_natCast]
      have hh9 : (wd.extract 0 p).size ≤ 9 := by rw [ByteArray.size_extract]; omega
      generalize wd.extract 0 p = h at hsl hh9
      obtain ⟨d0, d1, d2, d3⟩ := rule_cells rfl hx7
      have HAL : Hid (∀ c i : Nat, c < i → (cutsI s W P L M).contains (c : Int) = true → (cutsI (h ++ s) W P L M).contains ((c + h.size : Nat) : Int) = true → (cutsI s W P L M).contains (i : Int) = (cutsI (h ++ s) W P L M).contains ((i + h.size : Nat) : Int)) := fun c i a b d => alike_at s h hok c i a b d
      have HBE : Hid (∀ i, i + 1 < (cutsI s W P L M).length → i < (cutsI (s ++ h) W P L M).length ∧ (cutsI (s ++ h) W P L M).getD i 0 = (cutsI s W P L M).getD i 0) := behind_at s h hok
      have HSH := shared_cuts s h hok (by omega) (by omega)
      have HC1 := fun w => implCuts_any s W P L M w (by omega)
      have HC2 := fun w => implCuts_any (h ++ s) W P L M w (by rw [ByteArray.size_append]; omega)
      have HC3 := fun w => implCuts_any (s ++ h) W P L M w (by rw [ByteArray.size_append]; omega)
      rw [cutsT_ok _ hok (by omega)] at HC1
      rw [cutsT_ok _ hok (by rw [ByteArray.size_append]; omega)] at HC2 HC3
      have hadd1 : ∀ W : World, (Op.stringOp .add h s).run Try.prog W = .ok (.string (h ++ s)) W := fun W => run_string_add_sum W _ _ (by omega)
      have hadd2 : ∀ W : World, (Op.stringOp .add s h).run Try.prog W = .ok (.string (s ++ h)) W := fun W => run_string_add_sum W _ _ (by omega)
      have hm1 : (cutsI s W P L M).length ≤ 20000 := by have := cutsT_max s W P L M; rwa [cutsT_ok _ hok (by omega)] at this
      have hm2 : (cutsI (h ++ s) W P L M).length ≤ 20000 := by have := cutsT_max (h ++ s) W P L M; rwa [cutsT_ok _ hok (by rw [ByteArray.size_append]; omega)] at this
      have hm3 : (cutsI (s ++ h) W P L M).length ≤ 20000 := by have := cutsT_max (s ++ h) W P L M; rwa [cutsT_ok _ hok (by rw [ByteArray.size_append]; omega)] at this
      generalize cutsI s W P L M = X at HAL HBE HSH HC1 hm1
      generalize cutsI (h ++ s) W P L M = Y at HAL HSH HC2 hm2
      generalize cutsI (s ++ h) W P L M = Z at HBE HC3 hm3
      generalize h ++ s = t1 at hadd1 HC2
      generalize s ++ h = t2 at hadd2 HC3
      clear hx6 hB6 hb7 ha6 hz hl hp0 hok
      go_wp2_with fail
      refine (HC1 _).mono ?_
      rintro e w8 ⟨vx, rfl, ho8, hb8⟩
      have hx8 := (hb8.block w1.heap.size (by omega)).trans hx7
      have hB8 := hB7.trans (hb8.mono hB7.size)
      have hs8 := hb8.size
      have hrx8 := rd_owns ho8
      clear hx7 hB7 hb8 d0 d1 d2 d3 HC1 ho8 hsl
      obtain ⟨d0, d1, d2, d3⟩ := rule_cells rfl hx8
      go_wp2_with fail
      refine (HC2 _).mono ?_
      rintro e w9 ⟨vy, rfl, ho9, hb9⟩
      have hx9 := (hb9.block w1.heap.size (by omega)).trans hx8
      have hB9 := hB8.trans (hb9.mono hB8.size)
      have hs9 := hb9.size
      have hrx9 := rd_below hrx8 hb9
      have hry9 := rd_owns ho9
      clear hx8 hB8 hb9 d0 d1 d2 d3 HC2 ho9 hrx8 hadd1
      obtain ⟨d0, d1, d2, d3⟩ := rule_cells rfl hx9
      have HH1 := fun i : Int => has_any vx X i w9 hrx9 (by omega)
      have HH2 := fun i : Int => has_any vy Y i w9 hry9 (by omega)
      have HX9 : Hid (RuleAt w9 w1.heap.size W P L M) := hx9
      have HRX : Hid (Rd w9 vx (cellsInt64S X)) := hrx9
      have HRY : Hid (Rd w9 vy (cellsInt64S Y)) := hry9
      clear hx9 hrx9 hry9
      go_wp2
      go_loop [12, 13] (fun q i => ∃ (k : Nat) (m : Bool), i = .int .i64 k ∧ q = .bool m ∧ 1 ≤ k ∧ k ≤ s.size + 1 ∧ Hid (m = true → ∃ c : Nat, c < k ∧ X.contains (c : Int) = true ∧ Y.contains ((c + h.size : Nat) : Int) = true)) (fun _ i => s.size + 1 - (intOf i).toNat)
      case atStart => exact ⟨1, false, rfl, rfl, Nat.le_refl _, by omega, fun e => by cases e⟩
      case round =>
        obtain ⟨k, m, rfl, rfl, hk1, hk2, hm⟩ := hrel
        by_cases hlt : k ≤ s.size
        focus
          have hltI : (k : Int) ≤ (s.size : Int) := by omega
          have hc1 := HH1 (k : Int)
          have hc2 := HH2 ((k : Int) + (h.size : Int))
          have HEQ : Hid (m = true → X.contains (k : Int) = Y.contains ((k : Int) + (h.size : Int))) := fun e => by
            obtain ⟨c, h1, h2, h3⟩ := hm.out e
            have := HAL.out c k h1 h2 h3
            rwa [Int.natCast_add] at this
          have HNEW : Hid (X.contains (k : Int) = true → Y.contains ((k : Int) + (h.size : Int)) = true → ∃ c : Nat, c < k + 1 ∧ X.contains (c : Int) = true ∧ Y.contains ((c + h.size : Nat) : Int) = true) := fun h1 h2 => ⟨k, by omega, h1, by rw [Int.natCast_add]; exact h2⟩
          have HOLD : Hid (m = true → ∃ c : Nat, c < k + 1 ∧ X.contains (c : Int) = true ∧ Y.contains ((c + h.size : Nat) : Int) = true) := fun e => by
            obtain ⟨c, h1, h2, h3⟩ := hm.out e
            exact ⟨c, by omega, h2, h3⟩
          generalize X.contains (k : Int) = o1 at hc1 HEQ HNEW
          generalize Y.contains ((k : Int) + (h.size : Int)) = o2 at hc2 HEQ HNEW
          clear hm
          go_wp2_with fail
          refine hc1.mono ?_
          rintro e u ⟨rfl, hu⟩
          replace hu := hu.symm
          subst hu
          go_wp2_with fail
          refine hc2.mono ?_
          rintro e u ⟨rfl, hu⟩
          replace hu := hu.symm
          subst hu
          clear hc1 hc2
          cases m
          focus
            cases o1
            focus
              go_wp2
              go_round
              case rel => exact ⟨k + 1, false, by go_num, rfl, by omega, by omega, fun e => by cases e⟩
              case measure => simp [intOf]; omega
            cases o2
            focus
              go_wp2
              go_round
              case rel => exact ⟨k + 1, false, by go_num, rfl, by omega, by omega, fun e => by cases e⟩
              case measure => simp [intOf]; omega
            go_wp2
            go_round
            case rel => exact ⟨k + 1, true, by go_num, rfl, by omega, by omega, fun _ => HNEW.out (by simp) (by simp)⟩
            case measure => simp [intOf]; omega
          have he := HEQ.out rfl
          subst he
          cases o1
          all_goals
            go_wp2
            go_round
            case rel => exact ⟨k + 1, true, by go_num, rfl, by omega, by omega, fun _ => HOLD.out (by simp)⟩
            case measure => simp [intOf]; omega
        have hltI : ¬ (k : Int) ≤ (s.size : Int) := by omega
        clear hm HH1 HH2 HAL
        go_wp2_with fail
        refine (HC3 _).mono ?_
        rintro e w10 ⟨vz, rfl, ho10, hb10⟩
        have hB10 := hB9.trans (hb10.mono hB9.size)
        have HRX10 : Hid (Rd w10 vx (cellsInt64S X)) := rd_below HRX.out hb10
        have HRY10 : Hid (Rd w10 vy (cellsInt64S Y)) := rd_below HRY.out hb10
        have HRZ10 : Hid (Rd w10 vz (cellsInt64S Z)) := rd_owns ho10
        clear hB9 hb10 d0 d1 d2 d3 HC3 ho10 hadd2 HX9 HRX HRY
        obtain ⟨ax, cx, rfl, _, hxx⟩ := id HRX10.out
        obtain ⟨az, cz, rfl, _, hzz⟩ := id HRZ10.out
        have hlx : (cellsInt64S X).length = X.length := by simp
        have hlz : (cellsInt64S Z).length = Z.length := by simp
        rw [hlx] at hxx HRX10 ⊢
        rw [hlz] at hzz HRZ10 ⊢
        have HXC : Hid (∀ j, j < X.length → ∃ b off, ax = some ⟨b, off, none⟩ ∧ w10.cell? ⟨b, off + j, none⟩ = some (.int .i64 (X.getD j 0))) := fun j hj => by
          obtain ⟨b, off, h1, h2, h3⟩ := hxx (by intro h; rw [h] at hlx; simp at hlx; omega)
          exact ⟨b, off, h1, (h3 j hj).trans (ints_get _ X j hj)⟩
        have HZC : Hid (∀ j, j < Z.length → ∃ b off, az = some ⟨b, off, none⟩ ∧ w10.cell? ⟨b, off + j, none⟩ = some (.int .i64 (Z.getD j 0))) := fun j hj => by
          obtain ⟨b, off, h1, h2, h3⟩ := hzz (by intro h; rw [h] at hlz; simp at hlz; omega)
          exact ⟨b, off, h1, (h3 j hj).trans (ints_get _ Z j hj)⟩
        have HSHo : Hid (0 ≤ sharedT X Y (h.size : Int) ∧ (0 < s.size → 1 ≤ sharedT X Y (h.size : Int))) := HSH
        obtain ⟨nx, hnx⟩ : ∃ nx, nx = X.length := ⟨_, rfl⟩
        obtain ⟨nz, hnz⟩ : ∃ nz, nz = Z.length := ⟨_, rfl⟩
        have HNXL : Hid (nx = X.length) := hnx
        rw [← hnx] at HXC HBE hm1 HRX10 ⊢
        rw [← hnz] at HZC HBE hm3 HRZ10 ⊢
        clear hxx hzz hlx hlz HSH hnx hnz
        go_wp2
        go_loopw [17] (fun i wr => ∃ k d : Nat, i = .int .i64 k ∧ k ≤ nx ∧ wr = w10.drewN d) (fun i _ => nx - (intOf i).toNat)
        case atStart => exact ⟨0, 0, rfl, Nat.zero_le _, rfl⟩
        case round =>
          obtain ⟨q, d, rfl, hq, rfl⟩ := hrel
          by_cases hqx : q + 1 < nx
          focus
            obtain ⟨hqz, heq⟩ := HBE.out q hqx
            obtain ⟨bx, ox, rfl, hcx⟩ := HXC.out q (by omega)
            obtain ⟨bz, oz, rfl, hcz⟩ := HZC.out q hqz
            rw [heq] at hcz
            obtain ⟨x, hx⟩ : ∃ x, x = X.getD q 0 := ⟨_, rfl⟩
            rw [← hx] at hcx hcz
            have hxx2 : (x != x) = false := by simp
            have hqn : q < nx := by omega
            clear hx heq
            go_wp2
            go_quiet (fail)
            go_wp2
            go_roundw
            case rel => exact ⟨q + 1, _, by go_num, by omega, rfl⟩
            case measure => simp [intOf]; omega
          have hqI : ¬ ((q : Int) + 1 < (nx : Int)) := by omega
          have hB11 : Below w.heap.size w (w10.drewN d) := below_drewN hB10 _
          have HIS := implShared_any (.slice ax nx cx) vy X Y (h.size : Int) (w10.drewN d) (rd_below HRX10.out (below_drewN (Below.refl _ _) _)) (rd_below HRY10.out (below_drewN (Below.refl _ _) _)) (by have := HNXL.out; omega) (by omega)
          obtain ⟨hz0, hz1⟩ := HSHo.out
          generalize sharedT X Y (h.size : Int) = z at hz0 hz1 HIS
          clear HXC HZC HBE HRX10 HRY10 HRZ10 HSHo hB10 HNXL
          generalize w10.drewN d = w11 at hB11 HIS ⊢
          go_wp2_with fail
          refine HIS.mono ?_
          rintro e u ⟨rfl, hu⟩
          replace hu := hu.symm
          subst hu
          by_cases hsz : s.size = 0
          · have hszI : (s.size : Int) = 0 := by omega
            clear HIS
            go_wp2
            all_goals
              go_ret
              exact ⟨by simp_all, hB11⟩
          · have hszI : ¬ (s.size : Int) = 0 := by omega
            have hz2 : 1 ≤ z := hz1 (by omega)
            go_wp2_with fail
            refine HIS.mono ?_
            rintro e u ⟨rfl, hu⟩
            replace hu := hu.symm
            subst hu
            clear HIS hz1
            go_wp2
            all_goals
              go_ret
              exact ⟨by simp_all, hB11⟩

set_option maxRecDepth 100000 in
theorem lifted (os : Os) (started : os.Started) (H : Type) (enc : TypeId × Value → H) :
    ReturnsInHanded {} Try.checked os 3 .any (Rows.fnAlikeSpec.pre6 enc Try.prog Try.f3 Rows.fnAlikeRow.domain false) (Rows.fnAlikeSpec.post enc Try.prog Try.f3 false true false false) := by
  refine returnsInHanded_of_change (C := Try.checked) own started (by kernel_rfl) Try.func3
    (ChangeSpec.witness6 (enc := enc) (C := Try.checked) false ⟨#[], #[.slice none 0 0], []⟩ 8 (by kernel_rfl) (by kernel_rfl) (by kernel_rfl) (by kernel_rfl)) ?_
  intro W base args ds gs before hval0 hW hcnd _
  have hval : ∀ (j : Nat) t v, Try.f3.params[j]? = some t → args[j]? = some v → Value.okWide Try.prog W .any base t v := hval0
  have hW' := hW
  obtain ⟨p, q, hA0, hV, rfl, hfz, hnd⟩ := hW
  have hA : DataW.TrodAll enc Try.prog W 0 (fun _ => true) true Try.f3.params.toList args.toList ds p := hA0
  rw [Try.params3] at hA hval
  obtain ⟨v0, vs0, d0, ds0, p0, q0, hargs0, rfl, rfl, h0, r0⟩ := trodAll_cons hA
  obtain ⟨rfl, rfl, rfl⟩ := trodAll_nil r0
  obtain rfl : args = #[v0] := by cases args; simp_all
  obtain ⟨rfl, rfl⟩ := trodVars_none hV
  obtain ⟨a0, len0, cap0, rfl⟩ := okWide_slice Try.underlying22 (hval 0 22 v0 rfl rfl)
  have k0 := h0
  have lt0 : ∀ x ∈ p0, x.block < W.heap.size := by obtain ⟨m, hm⟩ := k0; exact DataW.trod_lt m _ _ _ hm
  obtain ⟨zs0, hr0, hs0⟩ : ∃ zs : List Int, Rd W (.slice a0 len0 cap0) (zs.map (Value.int .u8)) ∧ ((∀ n ∈ zs, (Lit.int .u8 n).wf = true) ∧ zs.length ≤ 9223372036854775807) := by
    obtain ⟨fuel, hf⟩ := h0
    rcases open_ints Try.underlying22 Try.underlying5 (by kernel_rfl) hf with ⟨hcs, _⟩ | ⟨x, l, c, zs, hcs, _, hl, hm, hz, _, hcell, hwz⟩
    · simp [Value.cells] at hcs
      obtain ⟨rfl, rfl, rfl⟩ := hcs
      exact ⟨[], ⟨none, 0, rfl, Nat.le_refl _, fun h => absurd rfl h⟩, (fun x hx => absurd hx List.not_mem_nil), Nat.zero_le _⟩
    · simp [Value.cells] at hcs
      obtain ⟨rfl, rfl, rfl⟩ := hcs
      exact arg_ints .u8 hl hm (by simpa using hz) hcell hwz
  clear hA0 hval0
  refine (walk _ zs0 W hr0 (wf_bytes hs0.1) hs0.2).mono fun e W' ⟨he, bel⟩ => ?_
  subst he
  exact ⟨_, rfl, _, _, _, [], _, [], hW', trodAll_mk1 (shut_bool Try.underlying4 _), (trodAll_cons_mk (Below.trod laidOut (by kernel_rfl) (of_decide_eq_true (by kernel_rfl)) k0 bel lt0) trodAll_mk0), rfl, bel.frame _, fun h => by cases h⟩

theorem over : Rows.fnAlikeRow.holds Try.pinned (OpenSpec.ofChange Rows.fnAlikeSpec) :=
  OpenClaim.holds_of_wide 3 Try.f3 rfl rfl rfl rfl rfl rfl rfl ⟨rfl, rfl, rfl, rfl, rfl⟩ rfl rfl rfl rfl rfl (by kernel_rfl) Try.func3 (by kernel_rfl)
    (of_decide_eq_true (by kernel_rfl)) (by unfold Func.isWrapper; first | (rw [if_pos (by decide +kernel)]; kernel_rfl) | (rw [if_neg (by decide +kernel)]; exact ⟨rfl, rfl⟩))
    (fun os started H enc _ => lifted os started H enc)

theorem proved : Rows.FnAlikeSaid := over
end Go.Proofs.Ytndecefcnalgdab.fnAlike
