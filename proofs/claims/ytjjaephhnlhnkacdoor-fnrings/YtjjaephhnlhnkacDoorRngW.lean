/- CONTRACT: the specification's NewRing. -/
import Derived.Test.YtjjaephhnlhnkacDoorRngN
import Derived.Deep.RegionLaw
namespace Go.Proofs.YtjjaephhnlhnkacDoor
open Go.RowKit
set_option linter.unusedVariables false
def newT (nodes : List Int) (dots : Int) : List Dt × Bool := if NodesP nodes 15 ∧ 1 ≤ dots ∧ dots ≤ 8 then (ringN dots.toNat nodes [], true) else ([], false)
def RingEnd (R : List Dt × Bool) (w : World) : Ending → World → Prop := fun e w' => ∃ v, e = .returned (.tuple #[v, .bool R.2]) ∧ OwnD w' w.heap.size v R.1 ∧ Below w.heap.size w w'
theorem step_ownDt {ops : Array Oper} {o : Oper} {a : Act} {w : World} {K : Act → World → Prop} {Q : Exit → Act → World → Prop} {E : Prop} (hgd : o.guard = none) (s x : Operand)
    (ho : o.op = .call { callee := .builtin .append, args := #[s, x], argTypes := #[24, 24] })
    (B : Nat) (v u : Value) (xs ys : List Dt) (hs : a.eval s = v) (hx : a.eval x = u) (h : OwnD w B v xs) (hu : RdG dtf 2 w u ys) (hl : xs.length + ys.length ≤ 16777216) (hB : B ≤ w.heap.size)
    (hK : ∀ v' w', OwnD w' B v' (xs ++ ys) → w.grownBy w' v.ownBlock → (∀ q, v'.ownBlock = some q → v.ownBlock = some q ∨ w.heap.size ≤ q) → K (a.put o.dst v') w') :
    if Region.wanted o (yielded ops a.tmps) = true then Oper.wp Tryd.prog o a w K Q else E :=
  step_ownG dtT dtW hgd s x ho B v u xs ys hs hx h hu hl hB hK
theorem dotX_size (x k : Nat) : (dotX x k).size ≤ 45 := by
  unfold dotX
  rw [ByteArray.size_append, ByteArray.size_append, ByteArray.size_append]
  have h1 := (decN_size x).1
  have h2 := (decN_size k).1
  have e1 : (⟨#[110, 111, 100, 101]⟩ : ByteArray).size = 4 := rfl
  have e2 : (⟨#[46]⟩ : ByteArray).size = 1 := rfl
  omega
set_option maxHeartbeats 8000000 in
set_option maxRecDepth 100000 in
theorem specNewRing_any (va : Value) (nodes : List Int) (dots : Int) (w : World) (ha : Rd w va (cellsInt64S nodes)) (hl : nodes.length ≤ 1048576) :
    Calls Tryd.prog 13 #[va, .int .i64 dots] w (RingEnd (newT nodes dots) w) := by
  have hla : (cellsInt64S nodes).length = nodes.length := by simp
  have hb0 := (Below.refl w.heap.size w).alloc (Nat.le_refl _) (.cells #[] 51)
  have hrow0 := ownD_lit w
  have hs0 : w.heap.size ≤ (w.alloc (.cells #[] 51)).heap.size := by rw [World.size_alloc]; omega
  have hok := l11Nodes_any va nodes 15 (w.alloc (.cells #[] 51)) (rd_below ha hb0) hl
  by_cases hr : NodesP nodes 15
  rotate_left
  focus
    rw [decide_eq_false hr] at hok
    have e : newT nodes dots = ([], false) := by unfold newT; rw [if_neg (fun h => hr h.1)]
    rw [e]
    obtain ⟨ao, cap, hv, _⟩ := ha
    rw [hla] at hv
    subst hv
    clear e
    go_enter Tryd.func13, Tryd.ntmps13
    go_wp2_with fail
    refine hok.mono ?_
    rintro e w2 ⟨rfl, hb2⟩
    have HO := Lib.hid (owns_below hrow0 hb2)
    have HB := Lib.hid (hb0.trans (hb2.mono hs0))
    clear hok hrow0 hb2 hb0
    go_wp2
    go_ret2
    exact ⟨_, rfl, HO.out, HB.out⟩
  rw [decide_eq_true hr] at hok
  have hin := fun (W : World) => l1InB_any dots 1 8 W
  by_cases hd : 1 ≤ dots ∧ dots ≤ 8
  rotate_left
  focus
    have g1 : (decide (1 ≤ dots) && decide (dots ≤ 8)) = false := by
      cases e : (decide (1 ≤ dots) && decide (dots ≤ 8)) with
      | false => rfl
      | true => exact absurd (by simpa using e) hd
    rw [g1] at hin
    have e : newT nodes dots = ([], false) := by unfold newT; rw [if_neg (fun h => hd h.2)]
    rw [e]
    obtain ⟨ao, cap, hv, _⟩ := ha
    rw [hla] at hv
    subst hv
    clear e g1
    go_enter Tryd.func13, Tryd.ntmps13
    go_wp2_with fail
    refine hok.mono ?_
    rintro e w2 ⟨rfl, hb2⟩
    have HO := Lib.hid (owns_below hrow0 hb2)
    have HB := Lib.hid (hb0.trans (hb2.mono hs0))
    clear hok hrow0 hb2 hb0
    go_wp2_with fail
    refine (hin _).mono ?_
    rintro e w3 ⟨rfl, rfl⟩
    go_wp2
    go_ret2
    exact ⟨_, rfl, HO.out, HB.out⟩
  have g1 : (decide (1 ≤ dots) && decide (dots ≤ 8)) = true := by simpa using hd
  rw [g1] at hin
  have e : newT nodes dots = (ringN dots.toNat nodes [], true) := by unfold newT; rw [if_pos ⟨hr, hd⟩]
  rw [e]
  obtain ⟨D, hD⟩ : ∃ D : Nat, dots = (D : Int) := ⟨dots.toNat, by omega⟩
  have hDt : dots.toNat = D := by omega
  rw [hDt]
  have hD1 : 1 ≤ D := by omega
  have hD8 : D ≤ 8 := by omega
  subst hD
  have HR0 : Hid (ringN D (nodes.drop 0) [] = ringN D nodes []) := rfl
  have HEND : Hid (∀ O R, ringN D (nodes.drop nodes.length) O = R → O = R) := fun O R h => by
    rw [List.drop_length] at h
    exact h
  have HSTEP : Hid (∀ i O R, i < nodes.length → ringN D (nodes.drop i) O = R → ringN D (nodes.drop (i + 1)) (insN (nodes.getD i 0) D O) = R) := fun i O R hi h => by
    rw [drop_getD nodes i hi] at h
    exact h
  have HRG : Hid (∀ i, i < nodes.length → 0 ≤ nodes.getD i 0 ∧ nodes.getD i 0 ≤ 15) := fun i hi => by
    rw [getD_int hi]
    exact hr.2.1 _ (List.getElem_mem hi)
  have hN16 : nodes.length ≤ 16 := hr.1.2
  generalize ringN D nodes [] = R0 at HR0 ⊢
  generalize hRN : ringN D = RN at HR0 HEND HSTEP
  rcases rd_cases ha with ⟨h0, ao, cap, rfl⟩ | ⟨hp, b, off, cap, rfl, hcap, hlt, hc⟩
  · have h1 := congrArg List.length h0
    rw [hla] at h1
    have := hr.1.1
    simp at h1
    rw [h1] at this
    exact absurd this (by decide)
  rw [hla] at hc hp hcap hok ⊢
  have HA : Hid (∀ j, j < nodes.length → w.cell? ⟨b, off + j, none⟩ = some (.int .i64 (nodes.getD j 0))) := fun j hj => (hc j hj).trans (ints_get _ nodes j hj)
  obtain ⟨N, hN⟩ : ∃ N, N = nodes.length := ⟨_, rfl⟩
  rw [← hN] at hp hl hN16 HA HEND HSTEP HRG hok hcap ⊢
  clear hc ha hN hla hr e hRN g1 hDt
  go_enter Tryd.func13, Tryd.ntmps13
  go_wp2_with fail
  refine hok.mono ?_
  rintro e w2 ⟨rfl, hb2⟩
  have ho2 := owns_below hrow0 hb2
  have hB2 := hb0.trans (hb2.mono hs0)
  clear hok hrow0 hb2 hb0
  go_wp2_with fail
  refine (hin _).mono ?_
  rintro e w3 ⟨rfl, rfl⟩
  clear hin
  go_wp2
  go_loopw [6, 7] (fun v6 v7 wr => ∃ (i : Nat) (O : List Dt), v7 = .int .i64 (i : Int) ∧ i ≤ N ∧ O.length ≤ 8 * i ∧ Hid (RN (nodes.drop i) O = R0) ∧ OwnD wr w.heap.size v6 O ∧ Below w.heap.size w wr) (fun _ i _ => N - (intOf i).toNat)
  case atStart => exact ⟨0, [], rfl, Nat.zero_le _, Nat.le_refl _, HR0, ho2, hB2⟩
  case round =>
    rename World => wo
    obtain ⟨i, O, rfl, hi, hOl, hM, ho, hb⟩ := hrel
    clear ho2 hB2 HR0
    obtain ⟨av, cv, hvv⟩ := ownG_shape ho
    by_cases hlti : i < N
    rotate_left
    · have HE : Hid (O = R0) := HEND.out O R0 (by have h6 := hM.out; rw [show i = N by omega] at h6; exact h6)
      have HO : Hid (OwnD wo w.heap.size (.slice av O.length cv) R0) := by show OwnD _ _ _ _; rw [← HE.out, ← hvv]; exact ho
      subst hvv
      clear ho hM HE
      go_wp2
      go_ret2
      exact ⟨_, rfl, HO.out, hb⟩
    have hcx := HA.out i hlti
    obtain ⟨hx0, hx15⟩ := HRG.out i hlti
    have HNX := Lib.hid (fun L h => HSTEP.out i L R0 hlti h)
    have hMo := hM.out
    have HOUT : Hid (∀ l, l = insN (nodes.getD i 0) D O → RN (nodes.drop (i + 1)) l = R0) := fun l h => by rw [h]; exact HSTEP.out i O R0 hlti hMo
    obtain ⟨x, hx⟩ : ∃ x, x = nodes.getD i 0 := ⟨_, rfl⟩
    rw [← hx] at hcx hx0 hx15 HOUT
    obtain ⟨xn, hxn⟩ : ∃ xn : Nat, x = (xn : Int) := ⟨x.toNat, by omega⟩
    have hxt : x.toNat = xn := by omega
    have HIN : Hid (∀ k l, l = insN x k O → insD l (dotAt xn k, x) = insN x (k + 1) O) := fun k l h => by rw [h, ← hxt]; rfl
    have HILE : Hid (∀ k, (insN x k O).length ≤ O.length + k) := fun k => insN_len x k O
    subst hxn
    clear hx hxt hM hMo HNX
    have HIC := Lib.hid hcx
    have hiI : (i : Int) < (N : Int) := by omega
    clear hcx
    have hl0 : Hid (O = insN (xn : Int) 0 O) := rfl
    generalize hIN : insN (xn : Int) = IN at HIN HILE HOUT hl0
    clear hIN
    subst hvv
    go_wp2
    go_loopw [6, 8] (fun v6 v8 wr => ∃ (k : Nat) (l : List Dt), v8 = .int .i64 (k : Int) ∧ k ≤ D ∧ Hid (l = IN k O) ∧ OwnD wr w.heap.size v6 l ∧ Below w.heap.size w wr) (fun _ k _ => D - (intOf k).toNat)
    case atStart => exact ⟨0, O, rfl, Nat.zero_le _, hl0, ho, hb⟩
    case round =>
      rename World => wm
      obtain ⟨k, l, rfl, hk, hlk, hom, hbm⟩ := hrel
      clear ho hb hl0
      have hsm := hbm.size
      obtain ⟨am, cm, hvm⟩ := ownG_shape hom
      have hll : l.length ≤ 8 * i + k := by have h1 := HILE.out k; rw [← hlk.out] at h1; omega
      by_cases hltk : k < D
      rotate_left
      · have HM2 := Lib.hid (HOUT.out l (by rw [hlk.out, show k = D by omega]))
        have HO := Lib.hid hom
        subst hvm
        clear hom hlk
        go_wp2
        go_roundw
        case rel => exact ⟨i + 1, l, by go_num, by omega, by omega, HM2, HO.out, hbm⟩
        case measure => simp [intOf]; omega
      have cx := (hbm.cell (p := ⟨b, off + i, none⟩) hlt).trans HIC.out
      have hint := l1Int_any xn wm (by omega)
      have hltkI : (k : Int) < (D : Int) := by omega
      have hs1 := (decN_size xn).1
      have hs2 := (decN_size k).1
      have e4 : (⟨#[110, 111, 100, 101]⟩ : ByteArray).size = 4 := rfl
      have e1 : (⟨#[46]⟩ : ByteArray).size = 1 := rfl
      have hX : dotX xn k = ((⟨#[110, 111, 100, 101]⟩ ++ decN xn) ++ ⟨#[46]⟩) ++ decN k := rfl
      have hXs := dotX_size xn k
      have hDA : dotAt xn k = digest (dotX xn k) % 65536 := rfl
      have hz1 : (⟨#[110, 111, 100, 101]⟩ ++ decN xn : ByteArray).size ≤ 24 := by rw [ByteArray.size_append]; omega
      have hz2 : ((⟨#[110, 111, 100, 101]⟩ ++ decN xn) ++ ⟨#[46]⟩ : ByteArray).size ≤ 25 := by rw [ByteArray.size_append]; omega
      have ha1 : ∀ W : World, (Op.stringOp .add ⟨#[110, 111, 100, 101]⟩ (decN xn)).run Tryd.prog W = .ok (.string (⟨#[110, 111, 100, 101]⟩ ++ decN xn)) W := fun W => run_string_add_sum W _ _ (by omega)
      have ha2 : ∀ W : World, (Op.stringOp .add (⟨#[110, 111, 100, 101]⟩ ++ decN xn) ⟨#[46]⟩).run Tryd.prog W = .ok (.string ((⟨#[110, 111, 100, 101]⟩ ++ decN xn) ++ ⟨#[46]⟩)) W := fun W => run_string_add_sum W _ _ (by omega)
      have ha3 : ∀ W : World, (Op.stringOp .add ((⟨#[110, 111, 100, 101]⟩ ++ decN xn) ++ ⟨#[46]⟩) (decN k)).run Tryd.prog W = .ok (.string (((⟨#[110, 111, 100, 101]⟩ ++ decN xn) ++ ⟨#[46]⟩) ++ decN k)) W := fun W => run_string_add_sum W _ _ (by omega)
      have hint2 := fun W => l1Int_any k W (by omega)
      rw [← hX] at ha3
      generalize (⟨#[110, 111, 100, 101]⟩ ++ decN xn) ++ ⟨#[46]⟩ = t2 at ha2 ha3 hz2
      generalize (⟨#[110, 111, 100, 101]⟩ ++ decN xn : ByteArray) = t1 at ha1 ha2 hz1
      generalize decN xn = dx at ha1 hint
      generalize decN k = dk at ha3 hint2
      have hdig := fun W => specDigest_any (dotX xn k) W (by omega)
      have hdin := digest_in (dotX xn k)
      generalize hXg : dotX xn k = t3 at ha3 hdig hDA hdin
      generalize hdg : digest t3 = dg at hdig hDA hdin
      have HIk := Lib.hid (fun h => HIN.out k l h)
      generalize hag : dotAt xn k = pt at hDA HIk
      clear hX hXs hXg hdg hs1 hs2 e4 e1 hag
      subst hDA
      have hptr : 0 ≤ dg % 65536 ∧ dg % 65536 ≤ 65535 := by omega
      have hdg0 : 0 ≤ dg := by omega
      clear hdin
      subst hvm
      go_wp2_with fail
      refine hint.mono ?_
      rintro e w4 ⟨rfl, hb4⟩
      have ho4 := owns_below hom hb4
      have hB4 := hbm.trans (hb4.mono hsm)
      clear hint hom hbm hb4
      go_wp2_with fail
      refine (hint2 _).mono ?_
      rintro e w5 ⟨rfl, hb5⟩
      have ho5 := owns_below ho4 hb5
      have hB5 := hB4.trans (hb5.mono hB4.size)
      clear hint2 ho4 hB4 hb5
      go_wp2_with fail
      refine (hdig _).mono ?_
      rintro e w6 ⟨rfl, rfl⟩
      clear hdig
      have cx6 := (hB5.cell (p := ⟨b, off + i, none⟩) hlt).trans HIC.out
      have HIk := Lib.hid (HIk.out hlk.out)
      have HCL : Hid (∀ j, j < l.length → ∃ gb, am = some ⟨gb, 0, none⟩ ∧ w6.cell? ⟨gb, j * 2, none⟩ = some (.int .i64 (l.getD j dt0).1)) := fun j hj => by
        rcases ownG_cases dtW ho5 with ⟨h9, _⟩ | ⟨gb, cap9, cur9, h9, _, _, _, _, _, _, _, h8⟩
        · rw [h9] at hj; exact absurd hj (Nat.not_lt_zero _)
        · simp only [Value.slice.injEq] at h9
          exact ⟨gb, h9.1, (dt_cells0 h8 hj).1⟩
      obtain ⟨ll, hlleq⟩ : ∃ ll, ll = l.length := ⟨_, rfl⟩
      have HLL := Lib.hid hlleq
      rw [← hlleq] at HCL hll ⊢
      clear hlk hlleq
      go_wp2
      go_loopw [10] (fun v10 wr => ∃ g : Nat, v10 = .int .i64 (g : Int) ∧ g ≤ ll ∧ wr = w6 ∧ Hid (∀ j, j < g → (l.getD j dt0).1 < dg % 65536)) (fun g _ => ll - (intOf g).toNat)
      case atStart => exact ⟨0, rfl, Nat.zero_le _, rfl, fun j hj => by omega⟩
      case round =>
        obtain ⟨g, rfl, hg, hwr, hgo⟩ := hrel
        replace hwr := hwr.symm
        subst hwr
        have hgl : g ≤ l.length := by have := HLL.out; omega
        have HPOS : Hid ((g < l.length → ¬ (l.getD g dt0).1 < dg % 65536) → insD l (dg % 65536, (xn : Int)) = if g < l.length ∧ (l.getD g dt0).1 = dg % 65536 then l else l.take g ++ [(dg % 65536, (xn : Int))] ++ l.drop g) := fun h => insD_pos hgl (fun j hj => hgo.out j hj) h
        by_cases hgk : g < ll
        rotate_left
        · have hnq : ¬ (g < l.length ∧ (l.getD g dt0).1 = dg % 65536) := fun h => by have := HLL.out; omega
          have HPOS := Lib.hid (HPOS.out (fun h => by have := HLL.out; omega))
          have hgkI : ¬ (g : Int) < (ll : Int) := by omega
          clear hgo
          have HLN : Hid (l.take g ++ [(dg % 65536, (xn : Int))] ++ ([] ++ l.drop g) = IN (k + 1) O) := by
            show _ = _
            rw [← HIk.out, HPOS.out, if_neg hnq]
            simp
          obtain ⟨u1, hsl1, hrd1⟩ := rd_fromG dtT dtW ho5 g hgl
          obtain ⟨u2, hsl2, hu2, hub⟩ := own_takeG dtT dtW ho5 g hgl
          have hLL := HLL.out
          rw [← hLL] at hsl1 hsl2
          have hltk9 := ho5.lt
          have hal := (Below.refl w6.heap.size w6).alloc (Nat.le_refl _) (.cells #[] 51)
          have hlit := ownD_lit w6
          have hrd1' := rdG_below hrd1 hal
          have hdl : (l.drop g).length ≤ 200 := by rw [List.length_drop]; omega
          have htl : (l.take g).length ≤ 200 := by rw [List.length_take]; omega
          have hl1 : ([] : List Dt).length + (l.drop g).length ≤ 16777216 := by rw [List.length_nil]; omega
          have hl2 : (l.take g).length + [(dg % 65536, (xn : Int))].length ≤ 16777216 := by rw [List.length_singleton]; omega
          have hl3 : (l.take g ++ [(dg % 65536, (xn : Int))]).length + ([] ++ l.drop g).length ≤ 16777216 := by rw [List.length_append, List.length_singleton, List.nil_append]; omega
          have hs6 : w6.heap.size ≤ (w6.alloc (.cells #[] 51)).heap.size := by rw [World.size_alloc]; omega
          have HCX := Lib.hid cx6
          have hbs6 := hB5.size
          clear hrd1 hnq HPOS HIk hLL
          go_wp2_with (at_builtin; refine own_stepG dtT dtW rfl _ _ rfl w6.heap.size (.slice (some ⟨w6.heap.size, 0, none⟩) 0 0) u1 [] (l.drop g) rfl rfl hlit hrd1' hl1 hs6 ?_)
          intro v9 w9 ho9 hg9 hi9
          have hb9 : Below w6.heap.size w6 w9 := hal.grown hg9 hs6 (fun q hq => by cases hq; exact Nat.le_refl _)
          have hu9 := owns_below hu2 hb9
          have hB9 := hB5.trans (hb9.mono hbs6)
          have cx9 := (hb9.cell (p := ⟨b, off + i, none⟩) (by show b < _; omega)).trans HCX.out
          have hs9 := hB9.size
          have hs69 := hb9.size
          have hu9d : OwnD w9.drew w.heap.size u2 (l.take g) := hu9
          have ho9d : OwnD w9.drew w6.heap.size v9 ([] ++ l.drop g) := ho9
          have hoA := hu9d.alloc (.cells #[.int .i64 (dg % 65536), .int .i64 (xn : Int)] 51)
          have hrA := rdG_one dtW w9.drew (dg % 65536, (xn : Int)) 51
          have hBA := hB9.drew.alloc hs9 (.cells #[.int .i64 (dg % 65536), .int .i64 (xn : Int)] 51)
          have hsA : w.heap.size ≤ (w9.drew.alloc (.cells #[.int .i64 (dg % 65536), .int .i64 (xn : Int)] 51)).heap.size := by rw [World.size_alloc]; exact Nat.le_trans hs9 (Nat.le_succ _)
          have ho9A := ho9d.alloc (.cells #[.int .i64 (dg % 65536), .int .i64 (xn : Int)] 51)
          have hl9 : ([] ++ l.drop g).length ≤ 200 := by simpa using hdl
          have hub2 : ∀ q, u2.ownBlock = some q → q < w6.heap.size := fun q hq => (hltk9 q (hub ▸ hq)).2
          have hv9b : ∀ q, v9.ownBlock = some q → w6.heap.size ≤ q := fun q hq => (ho9.lt q hq).1
          clear hu9d ho9d hlit hrd1' hg9 hi9 hu2 hub hltk9 hu9 hal ho9 hb9 ho5 hB5 hB9 HCX cx6
          go_wp2
          go_region_law (first
            | (refine step_ownDt rfl (.tmp 80) (.tmp 87) rfl w.heap.size u2 (.slice (some ⟨w9.heap.size, 0, none⟩) 1 1) (l.take g) [(dg % 65536, (xn : Int))] (by rfl) (by rfl) hoA hrA hl2 hsA ?_; intro v10 w10 ho10 hg10 hi10; have hB10 : Below w.heap.size w w10 := hBA.grown hg10 hsA (fun q hq => (hoA.lt q hq).1); have ho9B := owns_grown ho9A hg10 (fun q hq hv => by have h1 := hub2 q hq; have h2 := hv9b q hv; omega))
            | (refine step_ownDt rfl (.tmp 88) (.tmp 89) rfl w.heap.size v10 v9 (l.take g ++ [(dg % 65536, (xn : Int))]) ([] ++ l.drop g) (by rfl) (by rfl) ho10 (rdG_owns dtW ho9B) hl3 hB10.size ?_; intro v11 w11 ho11 hg11 hi11; have hB11 : Below w.heap.size w w11 := hB10.grown hg11 hB10.size (fun q hq => (ho10.lt q hq).1)))
          all_goals
            have HO11 := Lib.hid ho11
            have HB11 := Lib.hid hB11
            clear ho11 hg11 hi11 ho10 hg10 hi10 hB10 hB11 ho9B hoA hrA hBA hsA ho9A hub2 hv9b
            go_wp2
            go_roundw
            case rel => exact ⟨k + 1, _, by go_num, by omega, HLN.out, HO11.out, HB11.out⟩
            case measure => simp [intOf]; omega
        obtain ⟨gb, hgb, c0⟩ := HCL.out g hgk
        have hgkI : (g : Int) < (ll : Int) := by omega
        have hnew : Hid ((l.getD g dt0).1 < dg % 65536 → ∀ j, j < g + 1 → (l.getD j dt0).1 < dg % 65536) := fun h j hj => by
          rcases Nat.lt_or_ge j g with h9 | h9
          · exact hgo.out j h9
          · obtain rfl : j = g := by omega
            exact h
        obtain ⟨y, hy⟩ : ∃ y, y = (l.getD g dt0).1 := ⟨_, rfl⟩
        rw [← hy] at c0 HPOS hnew
        clear hgo hy
        subst hgb
        by_cases hlt9 : y < dg % 65536
        · have HS := Lib.hid (hnew.out hlt9)
          clear hnew HPOS
          go_wp2
          go_roundw
          case rel => exact ⟨g + 1, by go_num, by omega, by first | rfl | trivial, HS⟩
          case measure => simp [intOf]; omega
        have HPOS := Lib.hid (HPOS.out (fun _ => hlt9))
        clear hnew
        by_cases heq : y = dg % 65536
        · have HLN : Hid (l = IN (k + 1) O) := by
            show _ = _
            rw [← HIk.out, HPOS.out, if_pos ⟨by have := HLL.out; omega, heq⟩]
          have g5 : (y == dg % 65536) = true := by simp [heq]
          have HLL2 := HLL.out
          have HO : Hid (OwnD w6 w.heap.size (.slice (some ⟨gb, 0, none⟩) ll cm) l) := by show OwnD _ _ _ _; rw [HLL.out]; exact ho5
          clear HPOS HIk ho5 heq HLL2
          go_wp2
          go_roundw
          case rel => exact ⟨k + 1, l, by go_num, by omega, HLN, HO.out, hB5⟩
          case measure => simp [intOf]; omega
        · have g5 : (y == dg % 65536) = false := by simp [heq]
          have hnq : ¬ (g < l.length ∧ y = dg % 65536) := fun h => heq h.2
          have HLN : Hid (l.take g ++ [(dg % 65536, (xn : Int))] ++ ([] ++ l.drop g) = IN (k + 1) O) := by
            show _ = _
            rw [← HIk.out, HPOS.out, if_neg hnq]
            simp
          obtain ⟨u1, hsl1, hrd1⟩ := rd_fromG dtT dtW ho5 g hgl
          obtain ⟨u2, hsl2, hu2, hub⟩ := own_takeG dtT dtW ho5 g hgl
          have hLL := HLL.out
          rw [← hLL] at hsl1 hsl2
          have hltk9 := ho5.lt
          have hal := (Below.refl w6.heap.size w6).alloc (Nat.le_refl _) (.cells #[] 51)
          have hlit := ownD_lit w6
          have hrd1' := rdG_below hrd1 hal
          have hdl : (l.drop g).length ≤ 200 := by rw [List.length_drop]; omega
          have htl : (l.take g).length ≤ 200 := by rw [List.length_take]; omega
          have hl1 : ([] : List Dt).length + (l.drop g).length ≤ 16777216 := by rw [List.length_nil]; omega
          have hl2 : (l.take g).length + [(dg % 65536, (xn : Int))].length ≤ 16777216 := by rw [List.length_singleton]; omega
          have hl3 : (l.take g ++ [(dg % 65536, (xn : Int))]).length + ([] ++ l.drop g).length ≤ 16777216 := by rw [List.length_append, List.length_singleton, List.nil_append]; omega
          have hs6 : w6.heap.size ≤ (w6.alloc (.cells #[] 51)).heap.size := by rw [World.size_alloc]; omega
          have HCX := Lib.hid cx6
          have hbs6 := hB5.size
          clear hrd1 hnq HPOS HIk hLL
          go_wp2_with (at_builtin; refine own_stepG dtT dtW rfl _ _ rfl w6.heap.size (.slice (some ⟨w6.heap.size, 0, none⟩) 0 0) u1 [] (l.drop g) rfl rfl hlit hrd1' hl1 hs6 ?_)
          intro v9 w9 ho9 hg9 hi9
          have hb9 : Below w6.heap.size w6 w9 := hal.grown hg9 hs6 (fun q hq => by cases hq; exact Nat.le_refl _)
          have hu9 := owns_below hu2 hb9
          have hB9 := hB5.trans (hb9.mono hbs6)
          have cx9 := (hb9.cell (p := ⟨b, off + i, none⟩) (by show b < _; omega)).trans HCX.out
          have hs9 := hB9.size
          have hs69 := hb9.size
          have hu9d : OwnD w9.drew w.heap.size u2 (l.take g) := hu9
          have ho9d : OwnD w9.drew w6.heap.size v9 ([] ++ l.drop g) := ho9
          have hoA := hu9d.alloc (.cells #[.int .i64 (dg % 65536), .int .i64 (xn : Int)] 51)
          have hrA := rdG_one dtW w9.drew (dg % 65536, (xn : Int)) 51
          have hBA := hB9.drew.alloc hs9 (.cells #[.int .i64 (dg % 65536), .int .i64 (xn : Int)] 51)
          have hsA : w.heap.size ≤ (w9.drew.alloc (.cells #[.int .i64 (dg % 65536), .int .i64 (xn : Int)] 51)).heap.size := by rw [World.size_alloc]; exact Nat.le_trans hs9 (Nat.le_succ _)
          have ho9A := ho9d.alloc (.cells #[.int .i64 (dg % 65536), .int .i64 (xn : Int)] 51)
          have hl9 : ([] ++ l.drop g).length ≤ 200 := by simpa using hdl
          have hub2 : ∀ q, u2.ownBlock = some q → q < w6.heap.size := fun q hq => (hltk9 q (hub ▸ hq)).2
          have hv9b : ∀ q, v9.ownBlock = some q → w6.heap.size ≤ q := fun q hq => (ho9.lt q hq).1
          clear hu9d ho9d hlit hrd1' hg9 hi9 hu2 hub hltk9 hu9 hal ho9 hb9 ho5 hB5 hB9 HCX cx6
          go_wp2
          go_region_law (first
            | (refine step_ownDt rfl (.tmp 80) (.tmp 87) rfl w.heap.size u2 (.slice (some ⟨w9.heap.size, 0, none⟩) 1 1) (l.take g) [(dg % 65536, (xn : Int))] (by rfl) (by rfl) hoA hrA hl2 hsA ?_; intro v10 w10 ho10 hg10 hi10; have hB10 : Below w.heap.size w w10 := hBA.grown hg10 hsA (fun q hq => (hoA.lt q hq).1); have ho9B := owns_grown ho9A hg10 (fun q hq hv => by have h1 := hub2 q hq; have h2 := hv9b q hv; omega))
            | (refine step_ownDt rfl (.tmp 88) (.tmp 89) rfl w.heap.size v10 v9 (l.take g ++ [(dg % 65536, (xn : Int))]) ([] ++ l.drop g) (by rfl) (by rfl) ho10 (rdG_owns dtW ho9B) hl3 hB10.size ?_; intro v11 w11 ho11 hg11 hi11; have hB11 : Below w.heap.size w w11 := hB10.grown hg11 hB10.size (fun q hq => (ho10.lt q hq).1)))
          all_goals
            have HO11 := Lib.hid ho11
            have HB11 := Lib.hid hB11
            clear ho11 hg11 hi11 ho10 hg10 hi10 hB10 hB11 ho9B hoA hrA hBA hsA ho9A hub2 hv9b
            go_wp2
            go_roundw
            case rel => exact ⟨k + 1, _, by go_num, by omega, HLN.out, HO11.out, HB11.out⟩
            case measure => simp [intOf]; omega
end Go.Proofs.YtjjaephhnlhnkacDoor
