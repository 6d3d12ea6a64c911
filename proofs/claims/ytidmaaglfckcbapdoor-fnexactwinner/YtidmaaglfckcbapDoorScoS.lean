/- CONTRACTS: the specification's Score, Ranks, Winner. -/
import Derived.Test.YtidmaaglfckcbapDoorScoM
import Derived.Deep.QuietTactic
namespace Go.Proofs.YtidmaaglfckcbapDoor
open Go.RowKit
set_option linter.unusedVariables false
set_option maxHeartbeats 1000000 in
theorem specScore_any (n k : Int) (w : World) (hn : n ≤ 9223372036854775807) (hk : k ≤ 9223372036854775807) :
    Calls Tryd.prog 14 #[.int .i64 n, .int .i64 k] w fun e w' => e = .returned (.int .i64 (scoT n k)) ∧ Below w.heap.size w w' := by
  by_cases h0 : n < 0
  focus
    have e : scoT n k = -1 := by unfold scoT; rw [if_neg (by omega)]
    rw [e]
    go_enter Tryd.func14, Tryd.ntmps14
    go_wp2
    go_ret
    exact ⟨rfl, Below.refl _ _⟩
  by_cases h1 : k < 0
  focus
    have e : scoT n k = -1 := by unfold scoT; rw [if_neg (by omega)]
    rw [e]
    go_enter Tryd.func14, Tryd.ntmps14
    go_wp2
    go_ret
    exact ⟨rfl, Below.refl _ _⟩
  have e : scoT n k = digest (scoX n.toNat k.toNat) := by unfold scoT; rw [if_pos ⟨by omega, by omega⟩]
  rw [e]
  obtain ⟨a, ha⟩ : ∃ a : Nat, n = (a : Int) := ⟨n.toNat, by omega⟩
  obtain ⟨b, hb⟩ : ∃ b : Nat, k = (b : Int) := ⟨k.toNat, by omega⟩
  have hat : n.toNat = a := by omega
  have hbt : k.toNat = b := by omega
  rw [hat, hbt]
  subst ha
  subst hb
  have hint := l1Int_any a w (by omega)
  have hint2 := fun W => l1Int_any b W (by omega)
  have hs1 := (decN_size a).1
  have hs2 := (decN_size b).1
  have e1 : (⟨#[47]⟩ : ByteArray).size = 1 := rfl
  have hX : scoX a b = (decN a ++ ⟨#[47]⟩) ++ decN b := rfl
  have hz1 : (decN a ++ ⟨#[47]⟩ : ByteArray).size ≤ 21 := by rw [ByteArray.size_append]; omega
  have hXs : (scoX a b).size ≤ 41 := by rw [hX, ByteArray.size_append]; omega
  have ha1 : ∀ W : World, (Op.stringOp .add (decN a) ⟨#[47]⟩).run Tryd.prog W = .ok (.string (decN a ++ ⟨#[47]⟩)) W := fun W => run_string_add_sum W _ _ (by omega)
  have ha2 : ∀ W : World, (Op.stringOp .add (decN a ++ ⟨#[47]⟩) (decN b)).run Tryd.prog W = .ok (.string ((decN a ++ ⟨#[47]⟩) ++ decN b)) W := fun W => run_string_add_sum W _ _ (by omega)
  rw [← hX] at ha2
  have hdig := fun W => specDigest_any (scoX a b) W (by omega)
  generalize scoX a b = t at ha2 hdig ⊢
  generalize decN a ++ ⟨#[47]⟩ = t1 at ha1 ha2
  generalize decN a = d1 at ha1 hint
  generalize decN b = d2 at ha2 hint2
  generalize digest t = dg at hdig ⊢
  clear e hat hbt hs1 hs2 e1 hX hz1 hXs h0 h1
  have h0 : ¬ (a : Int) < 0 := by omega
  have h1 : ¬ (b : Int) < 0 := by omega
  go_enter Tryd.func14, Tryd.ntmps14
  go_wp2_with fail
  refine hint.mono ?_
  rintro e w1 ⟨rfl, hb1⟩
  clear hint
  go_wp2_with fail
  refine (hint2 _).mono ?_
  rintro e w2 ⟨rfl, hb2⟩
  have hb3 := hb1.trans (hb2.mono hb1.size)
  clear hint2 hb1 hb2
  go_wp2_with fail
  refine (hdig _).mono ?_
  rintro e w3 ⟨rfl, rfl⟩
  clear hdig
  go_wp2
  go_ret
  exact ⟨rfl, hb3⟩
theorem Tryd.infoBo : (Tryd.prog.info? 4).map (fun i => (i.zero, i.size, i.bytes)) = some (some (.bool false), 1, 1) := by kernel_rfl
abbrev cellsBo (U : List Bool) : List Value := U.map Value.bool
/-- the ranks, nothing where something is not as told -/
def RanksE (l : List Int) (k : Int) (w : World) : Ending → World → Prop := fun e w' => ∃ v R, e = .returned v ∧ (NodesK l k → IsRanks l k R) ∧ (¬ NodesK l k → R = []) ∧ w'.ownsRow w.heap.size 2 1 v R.length (cellsInt64S R) ∧ Below w.heap.size w w'
set_option maxHeartbeats 8000000 in
set_option maxRecDepth 100000 in
theorem specRanks_any (va : Value) (l : List Int) (key : Int) (w : World) (ha : Rd w va (cellsInt64S l)) (hl : l.length ≤ 1048576) (hk9 : key ≤ 9223372036854775807) :
    Calls Tryd.prog 9 #[va, .int .i64 key] w (RanksE l key w) := by
  have hla : (cellsInt64S l).length = l.length := by simp
  have hb0 := (Below.refl w.heap.size w).alloc (Nat.le_refl _) (.cells #[] 2)
  have hrow0 : (w.alloc (.cells #[] 2)).ownsRow w.heap.size 2 1 (.slice (some ⟨w.heap.size, 0, none⟩) 0 0) ([] : List Int).length (cellsInt64S []) := World.ownsRow_lit (base := w.heap.size) (e := 2) (size := 1) w #[] 0 (Nat.le_refl _) (Nat.zero_le _) rfl
  have hs0 : w.heap.size ≤ (w.alloc (.cells #[] 2)).heap.size := by rw [World.size_alloc]; omega
  have hok := l11Nodes_any va l 4611686018427387904 (w.alloc (.cells #[] 2)) (rd_below ha hb0) hl
  by_cases hr : NodesP l 4611686018427387904
  rotate_left
  focus
    rw [decide_eq_false hr] at hok
    obtain ⟨ao, cap, hv, _⟩ := ha
    rw [hla] at hv
    subst hv
    go_enter Tryd.func9, Tryd.ntmps9
    go_wp2_with fail
    refine hok.mono ?_
    rintro e w2 ⟨rfl, hb2⟩
    have HO := Lib.hid (owns_below hrow0 hb2)
    have HB := Lib.hid (hb0.trans (hb2.mono hs0))
    clear hok hrow0 hb2 hb0
    go_wp2
    go_ret
    exact ⟨_, [], rfl, fun h => absurd h.1 hr, fun _ => rfl, HO.out, HB.out⟩
  rw [decide_eq_true hr] at hok
  by_cases hk0 : 0 ≤ key
  rotate_left
  focus
    have hI : key < 0 := by omega
    obtain ⟨ao, cap, hv, _⟩ := ha
    rw [hla] at hv
    subst hv
    go_enter Tryd.func9, Tryd.ntmps9
    go_wp2_with fail
    refine hok.mono ?_
    rintro e w2 ⟨rfl, hb2⟩
    have HO := Lib.hid (owns_below hrow0 hb2)
    have HB := Lib.hid (hb0.trans (hb2.mono hs0))
    clear hok hrow0 hb2 hb0
    go_wp2
    go_ret
    exact ⟨_, [], rfl, fun h => absurd h.2 (by omega), fun _ => rfl, HO.out, HB.out⟩
  have hkn : ¬ key < 0 := by omega
  obtain ⟨i0, hi0, hz0, hz1, hz2⟩ := info_parts Tryd.infoBo
  have HFIN : Hid (∀ R U, RnkP key l R U → R.length = l.length → (NodesK l key → IsRanks l key R) ∧ (¬ NodesK l key → R = [])) := fun R U h h2 => ⟨fun _ => rnk_end hr.2.2 h h2, fun h3 => absurd ⟨hr, hk0⟩ h3⟩
  have HBE : Hid (∀ H U z, RnkP key l H U → H.length < l.length → BestI key l U l.length z → ∃ b : Nat, z = (b : Int) ∧ b < l.length ∧ RnkP key l (H ++ [l.getD b 0]) (U.set b true)) := fun H U z h1 h2 h3 => best_end hr.2.2 h1 h2 h3
  have HST : Hid (RnkP key l [] (List.replicate l.length false)) := rnk_start key l
  have HUL : Hid (∀ H U, RnkP key l H U → U.length = l.length) := fun H U h => h.2.2.1
  have hN16 : l.length ≤ 16 := hr.1.2
  have HRG : Hid (∀ j, j < l.length → 0 ≤ l.getD j 0 ∧ l.getD j 0 ≤ 4611686018427387904) := fun j hj => by rw [getD_int hj]; exact hr.2.1 _ (List.getElem_mem hj)
  rcases rd_cases ha with ⟨h0, ao, cap, rfl⟩ | ⟨hp, b, off, cap, rfl, hcap, hlt, hc⟩
  · have h1 := congrArg List.length h0
    rw [hla] at h1
    have := hr.1.1
    simp at h1
    rw [h1] at this
    exact absurd this (by decide)
  rw [hla] at hc hp hcap hok ⊢
  have HA : Hid (∀ j, j < l.length → w.cell? ⟨b, off + j, none⟩ = some (.int .i64 (l.getD j 0))) := fun j hj => (hc j hj).trans (ints_get _ l j hj)
  obtain ⟨N, hN⟩ : ∃ N, N = l.length := ⟨_, rfl⟩
  rw [← hN] at hp hl hN16 HA HFIN HBE HST HUL HRG hok hcap ⊢
  clear hc ha hN hla hr
  go_enter Tryd.func9, Tryd.ntmps9
  go_wp2_with fail
  refine hok.mono ?_
  rintro e w2 ⟨rfl, hb2⟩
  have ho2 := owns_below hrow0 hb2
  have hB2 := hb0.trans (hb2.mono hs0)
  have hs2 := hB2.size
  have hs2' : w.heap.size + 1 ≤ w2.heap.size := by have := hb2.size; rw [World.size_alloc] at this; omega
  clear hok hrow0 hb2 hb0
  go_wp2_with (at_make; refine wpList_make_full _ rfl _ _ 29 rfl w2.heap.size 4 i0 (.bool false) 1 Tryd.underlying29 hi0 hz0 hz1 _ _ _ _ N rfl rfl rfl rfl (by rw [hz2]; omega) (by unfold maxLen; omega) ?c1 ?_)
  case c1 => exact Nat.le_refl _
  intro w3 hmade hg3
  have hb3 : Below w2.heap.size w2 w3 := (Below.refl _ _).grown hg3 (Nat.le_refl _) (fun k hk => by cases hk)
  have hu3 : w3.ownsRow w2.heap.size 4 1 (.slice (some ⟨w2.heap.size, 0, none⟩) N N) N (cellsBo (List.replicate N false)) := by
    have h := hmade
    rw [toList_madeCells_one] at h
    simpa using h
  have ho3 := owns_below ho2 hb3
  have hB3 := hB2.trans (hb3.mono hs2)
  have hs23 := hb3.size
  obtain ⟨g, hg⟩ : ∃ g, g = w2.heap.size := ⟨_, rfl⟩
  rw [← hg] at hu3 hs2 hs2' hs23 ⊢
  clear hmade hg3 hb3 ho2 hB2 hg
  go_wp2
  go_loopw [5, 7] (fun v5 v7 wr => ∃ (n : Nat) (H : List Int) (U : List Bool), v7 = .int .i64 (n : Int) ∧ n ≤ N ∧ H.length = n ∧ Hid (RnkP key l H U) ∧ wr.ownsRow w.heap.size 2 1 v5 H.length (cellsInt64S H) ∧ (∀ q, v5.ownBlock = some q → q ≠ g) ∧ wr.ownsRow g 4 1 (.slice (some ⟨g, 0, none⟩) N N) N (cellsBo U) ∧ Below w.heap.size w wr) (fun _ n _ => N - (intOf n).toNat)
  case atStart => exact ⟨0, [], _, rfl, Nat.zero_le _, rfl, HST.out, ho3, (fun q hq => by have e : w.heap.size = q := Option.some.inj hq; omega), hu3, hB3⟩
  case round =>
    rename World => wo
    obtain ⟨n, H, U, rfl, hn, hHl, hP, ho, hne, hu, hB⟩ := hrel
    clear ho3 hu3 hB3 HST
    have hs := hB.size
    have hUl := HUL.out H U hP.out
    obtain ⟨av, cv, hvv⟩ := owns_slice ho
    have HHL := Lib.hid hHl
    clear hHl
    by_cases hnN : n < N
    rotate_left
    · have hnN' : n = N := by omega
      obtain ⟨h1, h2⟩ := HFIN.out H U hP.out (by have := HHL.out; omega)
      have HO := Lib.hid ho
      have H1 := Lib.hid h1
      have H2 := Lib.hid h2
      have hnI : ¬ (n : Int) < (N : Int) := by omega
      subst hvv
      clear ho hu hP h1 h2 hnN'
      go_wp2
      go_ret
      exact ⟨_, H, rfl, H1.out, H2.out, HO.out, hB⟩
    have hnI : (n : Int) < (N : Int) := by omega
    have hoA := Lib.hid ho
    have hB0 : Hid (BestI key l U 0 (-1)) := best_start key l U
    subst hvv
    clear ho
    go_wp2
    go_loopw [8, 9] (fun v8 v9 wr => ∃ (i : Nat) (z : Int), v9 = .int .i64 (i : Int) ∧ v8 = .int .i64 z ∧ i ≤ N ∧ Hid (BestI key l U i z) ∧ wr.ownsRow w.heap.size 2 1 (.slice av H.length cv) H.length (cellsInt64S H) ∧ wr.ownsRow g 4 1 (.slice (some ⟨g, 0, none⟩) N N) N (cellsBo U) ∧ Below w.heap.size w wr) (fun _ i _ => N - (intOf i).toNat)
    case atStart => exact ⟨0, -1, rfl, rfl, Nat.zero_le _, hB0, hoA.out, hu, hB⟩
    case round =>
      rename World => wr
      obtain ⟨i, z, rfl, rfl, hi, hBI, ho, hu2, hB2⟩ := hrel
      clear hu hB hB0 hoA
      have hsr := hB2.size
      by_cases hiN : i < N
      · have c0 := (hB2.cell (p := ⟨b, off + i, none⟩) hlt).trans (HA.out i hiN)
        have hub := hu2.cellAt i (by omega)
        have hue : (cellsBo U)[i]? = some (.bool (U.getD i false)) := by simp [List.getD, List.getElem?_eq_getElem (show i < U.length by omega)]
        rw [hue] at hub
        have hiI : (i : Int) < (N : Int) := by omega
        have HO := Lib.hid ho
        have HU := Lib.hid hu2
        cases hui : U.getD i false with
        | true =>
          rw [hui] at hub
          have HB2 := Lib.hid (best_used hBI.out hui)
          clear hui hue ho hu2 hBI
          go_wp2
          go_roundw
          case rel => exact ⟨i + 1, z, by go_num, rfl, by omega, HB2.out, HO.out, HU.out, hB2⟩
          case measure => simp [intOf]; omega
        | false =>
          rw [hui] at hub
          by_cases hz : z < 0
          · have HB2 := Lib.hid (best_first hBI.out hz hui)
            clear hui hue ho hu2 hBI
            go_wp2
            go_roundw
            case rel => exact ⟨i + 1, (i : Int), by go_num, by go_num, by omega, HB2.out, HO.out, HU.out, hB2⟩
            case measure => simp [intOf]; omega
          · obtain ⟨bb, hbb, hbi⟩ := best_is hBI.out hz
            subst hbb
            have c1 := (hB2.cell (p := ⟨b, off + bb, none⟩) hlt).trans (HA.out bb (by omega))
            obtain ⟨hx0, hx1⟩ := HRG.out i hiN
            have HMO := Lib.hid (fun h => best_more hBI.out hui h)
            have HKE := Lib.hid (fun h => best_keep hBI.out h)
            have hbI : (bb : Int) < (N : Int) := by omega
            obtain ⟨hy0, hy1⟩ := HRG.out bb (by omega)
            obtain ⟨x, hx⟩ : ∃ x, x = l.getD i 0 := ⟨_, rfl⟩
            obtain ⟨y, hy⟩ : ∃ y, y = l.getD bb 0 := ⟨_, rfl⟩
            rw [← hx] at c0 HMO HKE hx0 hx1
            rw [← hy] at c1 HMO HKE hy0 hy1
            have hsc1 := specScore_any x key wr (by omega) hk9
            have hsc2 := fun W => specScore_any y key W (by omega) hk9
            have HAH : Hid (ahdT key x y ↔ scoT y key < scoT x key ∨ (scoT x key = scoT y key ∧ x < y)) := Iff.rfl
            generalize scoT x key = sa at hsc1 HAH
            generalize scoT y key = sb at hsc2 HAH
            have HC0 := Lib.hid (HA.out i hiN)
            have HC1 := Lib.hid (HA.out bb (by omega))
            rw [← hx] at HC0
            rw [← hy] at HC1
            clear hui hue hx hy hBI HO HU
            go_wp2_with fail
            refine hsc1.mono ?_
            rintro e w6 ⟨rfl, hb6⟩
            have ho6 := owns_below ho hb6
            have hu6 := owns_below hu2 hb6
            have hB6 := hB2.trans (hb6.mono hsr)
            have c1 := (hB6.cell (p := ⟨b, off + bb, none⟩) hlt).trans HC1.out
            clear hsc1 ho hu2 hb6 hub c0
            go_wp2_with fail
            refine (hsc2 w6).mono ?_
            rintro e w7 ⟨rfl, hb7⟩
            have HO := Lib.hid (owns_below ho6 hb7)
            have HU := Lib.hid (owns_below hu6 hb7)
            have hB7 := hB6.trans (hb7.mono hB6.size)
            have k0 := (hB7.cell (p := ⟨b, off + i, none⟩) hlt).trans HC0.out
            have k1 := (hB7.cell (p := ⟨b, off + bb, none⟩) hlt).trans HC1.out
            clear hsc2 ho6 hu6 hb7 hB6 c1
            by_cases h1 : sb < sa
            · have HB2 := Lib.hid (HMO.out (HAH.out.2 (Or.inl h1)))
              have HB7 := Lib.hid hB7
              clear HMO HKE HAH hB2 hB7
              go_wp2
              have g1 : decide (sb < sa) = true := decide_eq_true h1
              go_quiet (fail)
              go_wp2
              go_roundw
              case rel => exact ⟨i + 1, (i : Int), by go_num, by go_num, by omega, HB2.out, HO.out, HU.out, by first | exact HB7.out | exact below_drewN HB7.out _⟩
              case measure => simp [intOf]; omega
            · by_cases h2 : sa = sb
              · subst h2
                by_cases h3 : x < y
                · have HB2 := Lib.hid (HMO.out (HAH.out.2 (Or.inr ⟨rfl, h3⟩)))
                  have HB7 := Lib.hid hB7
                  clear HMO HKE HAH hB2 hB7
                  go_wp2
                  have g1 : decide (sa < sa) = false := decide_eq_false (by omega)
                  have g3 : decide (x < y) = true := decide_eq_true h3
                  go_quiet (fail)
                  go_wp2
                  go_roundw
                  case rel => exact ⟨i + 1, (i : Int), by go_num, by go_num, by omega, HB2.out, HO.out, HU.out, by first | exact HB7.out | exact below_drewN HB7.out _⟩
                  case measure => simp [intOf]; omega
                · have HB2 := Lib.hid (HKE.out (fun h => by rcases HAH.out.1 h with h9 | h9; exact h1 h9; exact h3 h9.2))
                  have HB7 := Lib.hid hB7
                  clear HMO HKE HAH hB2 hB7
                  go_wp2
                  have g1 : decide (sa < sa) = false := decide_eq_false (by omega)
                  have g3 : decide (x < y) = false := decide_eq_false (by omega)
                  go_quiet (fail)
                  go_wp2
                  go_roundw
                  case rel => exact ⟨i + 1, (bb : Int), by go_num, rfl, by omega, HB2.out, HO.out, HU.out, by first | exact HB7.out | exact below_drewN HB7.out _⟩
                  case measure => simp [intOf]; omega
              · have HB2 := Lib.hid (HKE.out (fun h => by rcases HAH.out.1 h with h9 | h9; exact h1 h9; exact h2 h9.1))
                have HB7 := Lib.hid hB7
                clear HMO HKE HAH hB2 hB7
                go_wp2
                have g1 : decide (sb < sa) = false := decide_eq_false (by omega)
                have g2 : (sa == sb) = false := by simp [h2]
                go_quiet (fail)
                go_wp2
                go_roundw
                case rel => exact ⟨i + 1, (bb : Int), by go_num, rfl, by omega, HB2.out, HO.out, HU.out, by first | exact HB7.out | exact below_drewN HB7.out _⟩
                case measure => simp [intOf]; omega
      · have hiI : ¬ (i : Int) < (N : Int) := by omega
        obtain ⟨bb, hbb, hbN, hP2⟩ := HBE.out H U z hP.out (by have := HHL.out; omega) (by have h9 := hBI.out; rw [show i = N by omega] at h9; exact h9)
        subst hbb
        have c0 := (hB2.cell (p := ⟨b, off + bb, none⟩) hlt).trans (HA.out bb hbN)
        have HC0 := Lib.hid (HA.out bb hbN)
        have HP2 := Lib.hid hP2
        have hbI : (bb : Int) < (N : Int) := by omega
        obtain ⟨x, hx⟩ : ∃ x, x = l.getD bb 0 := ⟨_, rfl⟩
        rw [← hx] at c0 HP2 HC0
        have z0 := hu2.frozenAt bb
        have ub := hu2.cellAt bb (by omega)
        obtain ⟨u0, hu0⟩ : ∃ u0, (cellsBo U)[bb]? = some u0 := ⟨_, List.getElem?_eq_getElem (by simp; omega)⟩
        rw [hu0] at ub
        obtain ⟨hst, hsg⟩ := hu2.stored bb (.bool true)
        have hse : (cellsBo U).set bb (.bool true) = cellsBo (U.set bb true) := by simp [List.map_set]
        rw [hse] at hst
        have hoS := owns_grown ho hsg (fun q hq h9 => by cases hq; exact hne _ h9 rfl)
        have hBS := hB2.grown hsg hsr (fun q hq => by cases hq; omega)
        have hsS := hBS.size
        have hgl : g < wr.heap.size := (hu2.lt g rfl).2
        have hsz : (wr.setCell ⟨g, bb, none⟩ (.bool true)).heap.size = wr.heap.size := by simp [World.setCell]
        have hra : ((wr.setCell ⟨g, bb, none⟩ (.bool true)).alloc (.cells #[.int .i64 x] 2)).ownsRow wr.heap.size 2 1 (.slice (some ⟨wr.heap.size, 0, none⟩) 1 1) 1 (cellsInt64S [x]) := by
          have h9 := (World.ownsRow_lit (base := (wr.setCell ⟨g, bb, none⟩ (.bool true)).heap.size) (e := 2) (size := 1) (wr.setCell ⟨g, bb, none⟩ (.bool true)) #[.int .i64 x] 1 (Nat.le_refl _) (by unfold maxLen; omega) rfl)
          rw [hsz] at h9
          exact h9
        have hoa := hoS.alloc (.cells #[.int .i64 x] 2)
        have hua := hst.alloc (.cells #[.int .i64 x] 2)
        have hba := hBS.alloc hsS (.cells #[.int .i64 x] 2)
        have hsA : w.heap.size ≤ ((wr.setCell ⟨g, bb, none⟩ (.bool true)).alloc (.cells #[.int .i64 x] 2)).heap.size := by rw [World.size_alloc]; omega
        have hsA2 : wr.heap.size ≤ ((wr.setCell ⟨g, bb, none⟩ (.bool true)).alloc (.cells #[.int .i64 x] 2)).heap.size := by rw [World.size_alloc, hsz]; omega
        have hrq := rd_owns hra
        have hl1 : H.length + [x].length ≤ 16777216 := by have := HHL.out; rw [List.length_singleton]; omega
        have c1 : (wr.setCell ⟨g, bb, none⟩ (.bool true)).cell? ⟨b, off + bb, none⟩ = some (.int .i64 x) := (hBS.cell (p := ⟨b, off + bb, none⟩) hlt).trans HC0.out
        have HNE := Lib.hid hne
        clear hst hsg hse hu0 hoS hBS hsS hra hu2 ho hB2 hP2 hx hsr HC0 hBI hP c0 hne hUl
        go_wp2_with (at_builtin; refine own_step rfl _ _ rfl w.heap.size (.slice av H.length cv) (.slice (some ⟨wr.heap.size, 0, none⟩) 1 1) H [x] rfl rfl hoa hrq hl1 hsA ?_)
        intro v20 w20 ho20 hg20 hi20
        have HO20 : Hid (w20.ownsRow w.heap.size 2 1 v20 (H ++ [x]).length (cellsInt64S (H ++ [x]))) := by show World.ownsRow _ _ _ _ _ _ _; simpa using ho20
        have HU20 := Lib.hid (owns_grown hua hg20 (fun q hq h9 => HNE.out q hq (Option.some.inj h9).symm))
        have HB20 := Lib.hid (hba.grown hg20 hsA (fun q hq => (hoa.lt q hq).1))
        have HN20 : Hid (∀ q, v20.ownBlock = some q → q ≠ g) := fun q hq e => by
          rcases hi20 q hq with h9 | h9
          · exact HNE.out q h9 e
          · omega
        clear ho20 hg20 hi20 hoa hua hba hsA hsA2 hrq c1 z0 ub
        go_wp2
        go_roundw
        case rel => exact ⟨n + 1, H ++ [x], U.set bb true, by go_num, by omega, by have := HHL.out; simp; omega, HP2.out, HO20.out, HN20.out, HU20.out, HB20.out⟩
        case measure => simp [intOf]; omega
theorem specWinner_any (va : Value) (l : List Int) (key : Int) (w : World) (ha : Rd w va (cellsInt64S l)) (hl : l.length ≤ 1048576) (hk9 : key ≤ 9223372036854775807) :
    Calls Tryd.prog 5 #[va, .int .i64 key] w fun e w' => ∃ R, e = .returned (.int .i64 (R.headD (-1))) ∧ (NodesK l key → IsRanks l key R) ∧ (¬ NodesK l key → R = []) ∧ Below w.heap.size w w' := by
  have hla : (cellsInt64S l).length = l.length := by simp
  have hrk := specRanks_any va l key w ha hl hk9
  obtain ⟨ao, cap, hv, _⟩ := ha
  rw [hla] at hv
  subst hv
  clear hla
  go_enter Tryd.func5, Tryd.ntmps5
  go_wp2_with fail
  refine hrk.mono ?_
  rintro e w2 ⟨v, R, rfl, h1, h2, ho, hb⟩
  have H1 := Lib.hid h1
  have H2 := Lib.hid h2
  clear hrk h1 h2
  cases R with
  | nil =>
    obtain ⟨av, cv, hvv⟩ := owns_slice ho
    subst hvv
    clear ho
    go_wp2
    go_ret
    exact ⟨[], rfl, H1.out, fun _ => rfl, hb⟩
  | cons x t =>
    rcases rd_cases (rd_owns ho) with ⟨h0, _⟩ | ⟨hp, b, off, cp, hvv, _, hlt, hc⟩
    · cases h0
    have c0 : w2.cell? ⟨b, off, none⟩ = some (.int .i64 x) := by
      have h9 := hc 0 (by simp)
      simpa using h9
    have hll : ((cellsInt64S (x :: t)).length : Nat) = t.length + 1 := by simp
    rw [hll] at hvv
    have hne : (((t.length : Int) + 1) == 0) = false := by simp; omega
    have hpos : (0 : Int) < (t.length : Int) + 1 := by omega
    subst hvv
    clear ho hc hp hll
    go_wp2
    go_ret
    exact ⟨x :: t, rfl, H1.out, H2.out, hb⟩
end Go.Proofs.YtidmaaglfckcbapDoor
