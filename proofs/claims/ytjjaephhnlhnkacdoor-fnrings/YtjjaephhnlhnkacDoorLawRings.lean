/- FnRings: without one node only its own keys move, owners are unlike and begin with the owner, and all nodes own in the end. For every code, without a condition. (Written by ringsgen.py.) -/
import Derived.Test.YtjjaephhnlhnkacDoorDrawsO
import Derived.Test.YtjjaephhnlhnkacDoorRngE
import Derived.Test.YtjjaephhnlhnkacDoorRngO
import Derived.Test.YtjjaephhnlhnkacDoorRngV
import Derived.Test.YtjjaephhnlhnkacDoorRngK
import Derived.Test.YtjjaephhnlhnkacDoorHasL
import Derived.Test.YtjjaephhnlhnkacDoorPick
import Derived.Test.YtjjaephhnlhnkacDoorLikeI
import Derived.Test.YtjjaephhnlhnkacDoorArgs
import Derived.Test.YtjjaephhnlhnkacDoorCards
import Derived.Test.YtjjaephhnlhnkacDoorTie
import Derived.SevenTiedAt
import Derived.LaidMore
import Derived.Stop.Joined
namespace Go.Proofs.YtjjaephhnlhnkacDoor.fnRings
open Go.ChangeShapes Go.WideShapes Go.ChangeAt Go.RowKit
set_option linter.unusedVariables false
set_option maxHeartbeats 16000000 in
set_option maxRecDepth 100000 in
theorem walk (va : Value) (bs : List Int) (w : World) (ha : Rd w va (cellsByteS bs)) (hz : Bytes bs) (hn : bs.length ≤ 9223372036854775807) :
    Calls Tryd.prog 3 #[va] w fun e w' => e = .returned (.bool true) ∧ Below w.heap.size w w' := by
  have hla : (cellsByteS bs).length = bs.length := by simp
  obtain ⟨ao, cap, hval, hcap, _⟩ := id ha
  rw [hla] at hval hcap
  by_cases hbig : bs.length ≤ 4096
  rotate_left
  focus
    subst hval
    have hbI : (4096 : Int) < (bs.length : Int) := by omega
    have hbg : Calls Tryd.prog 4 #[.slice ao bs.length cap] w fun e w' => e = .returned (.bool true) ∧ w' = w := by
      clear ha hz
      go_enter Tryd.func4, Tryd.ntmps4
      go_wp2
      go_ret
      exact ⟨by first | rfl | (congr 1; simp; omega), rfl⟩
    clear ha hz
    go_enter Tryd.func3, Tryd.ntmps3
    go_wp2_with fail
    refine hbg.mono ?_
    rintro e w1 ⟨rfl, rfl⟩
    go_wp2
    go_ret
    exact ⟨rfl, Below.refl _ _⟩
  have hbI : ¬ (4096 : Int) < (bs.length : Int) := by omega
  have hbg : Calls Tryd.prog 4 #[.slice ao bs.length cap] w fun e w' => e = .returned (.bool false) ∧ w' = w := by
    clear ha hz
    go_enter Tryd.func4, Tryd.ntmps4
    go_wp2
    go_ret
    exact ⟨by first | rfl | (congr 1; simp; omega), rfl⟩
  subst hval
  have HZ := Lib.hid (bytes_allQ hz)
  have HDO := Lib.hid (fun (W : World) (h : Below w.heap.size w W) => dDrawOwner_any (.slice ao bs.length cap) bs W (rd_below ha h) hbig hz)
  have HDS := Lib.hid (fun (W : World) (h : Below w.heap.size w W) => dDrawOwners_any (.slice ao bs.length cap) bs W (rd_below ha h) hbig hz)
  have HDW := Lib.hid (fun (W : World) (h : Below w.heap.size w W) => dDrawWithout_any (.slice ao bs.length cap) bs W (rd_below ha h) hbig hz)
  have HDN := Lib.hid (fun (W : World) (h : Below w.heap.size w W) => drawNewRing_any (.slice ao bs.length cap) bs W (rd_below ha h) hbig hz)
  have HPK := Lib.hid (fun (seed n : Int) (W : World) (h : Below w.heap.size w W) (h0 : 0 ≤ seed) (h1 : seed ≤ 1000000) (hn : 0 < n) (hn2 : n ≤ 4611686018427387903) => pick_any (.slice ao bs.length cap) bs seed n W (rd_below ha h) hbig HZ.out h0 h1 hn hn2)
  clear hz ha hbI hn
  have hB0 := Below.refl w.heap.size w
  go_enter Tryd.func3, Tryd.ntmps3
  go_wp2_with fail
  refine hbg.mono ?_
  rintro e w0 ⟨rfl, hw0⟩
  replace hw0 := hw0.symm
  subst hw0
  clear hbg
  obtain ⟨w0, hw0⟩ : ∃ w0, w0 = w := ⟨_, rfl⟩
  have HW0 := Lib.hid hw0
  have hB0 : Below w.heap.size w w0 := by rw [hw0]; exact Below.refl _ _
  rw [← hw0]
  clear hw0
  go_wp2_with fail
  refine (HDO.out w0 hB0).mono ?_
  rintro e w1 ⟨vl, l, key, rfl, hll, hk0, hk1, hnL1, hb1⟩
  have hB1 := hB0.trans (hb1.mono hB0.size)
  have hoL1 := owns_base hnL1 hB0.size
  clear hB0 hb1 hnL1
  go_wp2_with fail
  refine (implOwner_any vl l key w1 (rdG_owns dtW hoL1) (by omega)).mono ?_
  rintro e w2 ⟨rfl, hb2⟩
  have hoL2 := owns_below hoL1 hb2
  have hB2 := hB1.trans (hb2.mono hB1.size)
  clear hoL1 hB1 hb2
  go_wp2_with fail
  refine (HDS.out w2 hB2).mono ?_
  rintro e w3 ⟨va, a, ak, an, rfl, hal, hak0, hak1, han0, han1, hnA3, hb3⟩
  have hoL3 := owns_below hoL2 hb3
  have hB3 := hB2.trans (hb3.mono hB2.size)
  have hoA3 := owns_base hnA3 hB2.size
  clear hoL2 hB2 hb3 hnA3
  go_wp2_with fail
  refine (implOwners_any va a ak an w3 (rdG_owns dtW hoA3) (by omega)).mono ?_
  rintro e w4 ⟨vs, rfl, hnS4, hb4⟩
  have hoL4 := owns_below hoL3 hb4
  have hoA4 := owns_below hoA3 hb4
  have hB4 := hB3.trans (hb4.mono hB3.size)
  have hoS4 := owns_base hnS4 hB3.size
  clear hoL3 hoA3 hB3 hb4 hnS4
  go_wp2_with fail
  refine (HDW.out w4 hB4).mono ?_
  rintro e w5 ⟨vb, b, gone, rfl, hbl, hgo0, hgo1, hnB5, hb5⟩
  have hoL5 := owns_below hoL4 hb5
  have hoA5 := owns_below hoA4 hb5
  have hoS5 := owns_below hoS4 hb5
  have hB5 := hB4.trans (hb5.mono hB4.size)
  have hoB5 := owns_base hnB5 hB4.size
  clear hoL4 hoA4 hoS4 hB4 hb5 hnB5
  go_wp2_with fail
  refine (implWithout_any vb b gone w5 (rdG_owns dtW hoB5) (by omega)).mono ?_
  rintro e w6 ⟨vw, rfl, hnW6, hb6⟩
  have hoL6 := owns_below hoL5 hb6
  have hoA6 := owns_below hoA5 hb6
  have hoS6 := owns_below hoS5 hb6
  have hoB6 := owns_below hoB5 hb6
  have hB6 := hB5.trans (hb6.mono hB5.size)
  have hoW6 := owns_base hnW6 hB5.size
  clear hoL5 hoA5 hoS5 hoB5 hB5 hb6 hnW6
  go_wp2_with fail
  refine (HDN.out w6 hB6).mono ?_
  rintro e w7 ⟨vn, xs, d, rfl, hxl, hxr, hd0, hd9, hnN7, hb7⟩
  have hoL7 := owns_below hoL6 hb7
  have hoA7 := owns_below hoA6 hb7
  have hoS7 := owns_below hoS6 hb7
  have hoB7 := owns_below hoB6 hb7
  have hoW7 := owns_below hoW6 hb7
  have hB7 := hB6.trans (hb7.mono hB6.size)
  have hoN7 := owns_base hnN7 hB6.size
  clear hoL6 hoA6 hoS6 hoB6 hoW6 hB6 hb7 hnN7
  have him : ∀ (W : World) (v : Value), Rd W v (cellsInt64S xs) → Calls Tryd.prog 12 #[v, .int .i64 d] W fun e w' => ∃ u, e = .returned (.tuple #[u, .bool (newT xs d).2]) ∧ OwnD w' W.heap.size u (newT xs d).1 ∧ Below W.heap.size W w' := fun W v h => implNewRing_any v xs d W h (by omega)
  have hsp : ∀ (W : World) (v : Value), Rd W v (cellsInt64S xs) → Calls Tryd.prog 13 #[v, .int .i64 d] W fun e w' => ∃ u, e = .returned (.tuple #[u, .bool (newT xs d).2]) ∧ OwnD w' W.heap.size u (newT xs d).1 ∧ Below W.heap.size W w' := fun W v h => specNewRing_any v xs d W h (by omega)
  have hRl := newT_lenO xs d
  have HRR : Hid ((newT xs d).2 = true → decide (RingP (newT xs d).1) = true ∧ ((newT xs d).1.length : Int) ≤ (xs.length : Int) * d) := fun h => by
    unfold newT at h ⊢
    by_cases hk : NodesP xs 15 ∧ 1 ≤ d ∧ d ≤ 8
    · rw [if_pos hk]
      refine ⟨decide_eq_true (ringN_ring hk.1 (by omega) (by omega)), ?_⟩
      have h1 := ringN_le d.toNat xs []
      rw [List.length_nil, Nat.zero_add] at h1
      have h2 : ((xs.length * d.toNat : Nat) : Int) = (xs.length : Int) * d := by rw [Int.natCast_mul, Int.toNat_of_nonneg (by omega)]
      rw [← h2]
      exact Int.ofNat_le.2 h1
    · rw [if_neg hk] at h; cases h
  generalize (newT xs d).1 = R at him hsp hRl HRR
  generalize (newT xs d).2 = F1 at him hsp HRR
  have hne1 : (F1 != F1) = false := by simp
  clear HDO HDS HDW HDN
  obtain ⟨nn, cn, hvn⟩ := owns_slice hoN7
  subst hvn
  go_wp2_with fail
  refine (him w7 _ (rd_owns hoN7)).mono ?_
  rintro e w8 ⟨vr, rfl, hnR8, hb8⟩
  have hoL8 := owns_below hoL7 hb8
  have hoA8 := owns_below hoA7 hb8
  have hoS8 := owns_below hoS7 hb8
  have hoB8 := owns_below hoB7 hb8
  have hoW8 := owns_below hoW7 hb8
  have hoN8 := owns_below hoN7 hb8
  have hB8 := hB7.trans (hb8.mono hB7.size)
  have hoR8 := owns_base hnR8 hB7.size
  clear hoL7 hoA7 hoS7 hoB7 hoW7 hoN7 hB7 hb8 hnR8 him
  go_wp2_with fail
  refine (hsp w8 _ (rd_owns hoN8)).mono ?_
  rintro e w9 ⟨vx, rfl, hnX9, hb9⟩
  have hoL9 := owns_below hoL8 hb9
  have hoA9 := owns_below hoA8 hb9
  have hoS9 := owns_below hoS8 hb9
  have hoB9 := owns_below hoB8 hb9
  have hoW9 := owns_below hoW8 hb9
  have hoN9 := owns_below hoN8 hb9
  have hoR9 := owns_below hoR8 hb9
  have hB9 := hB8.trans (hb9.mono hB8.size)
  have hoX9 := owns_base hnX9 hB8.size
  clear hoL8 hoA8 hoS8 hoB8 hoW8 hoN8 hoR8 hB8 hb9 hnX9 hsp
  have hlk := likeDots_any vr vx R R w9 (rdG_owns dtW hoR9) (rdG_owns dtW hoX9) (by omega) (by omega)
  rw [decide_eq_true rfl] at hlk
  go_wp2_with fail
  refine (hlk).mono ?_
  rintro e w10 ⟨rfl, hb10⟩
  have hoL10 := owns_below hoL9 hb10
  have hoA10 := owns_below hoA9 hb10
  have hoS10 := owns_below hoS9 hb10
  have hoB10 := owns_below hoB9 hb10
  have hoW10 := owns_below hoW9 hb10
  have hoN10 := owns_below hoN9 hb10
  have hoR10 := owns_below hoR9 hb10
  have hoX10 := owns_below hoX9 hb10
  have hB10 := hB9.trans (hb10.mono hB9.size)
  clear hoL9 hoA9 hoS9 hoB9 hoW9 hoN9 hoR9 hoX9 hB9 hb10 hlk
  clear hoX10
  have hso := specOwner_any vl l key w10 (rdG_owns dtW hoL10) (by omega)
  have hneo : (ownT l key != ownT l key) = false := by simp
  generalize ownT l key = ol at hso hneo ⊢
  go_wp2_with fail
  refine (hso).mono ?_
  rintro e w11 ⟨rfl, hb11⟩
  have hoL11 := owns_below hoL10 hb11
  have hoA11 := owns_below hoA10 hb11
  have hoS11 := owns_below hoS10 hb11
  have hoB11 := owns_below hoB10 hb11
  have hoW11 := owns_below hoW10 hb11
  have hoN11 := owns_below hoN10 hb11
  have hoR11 := owns_below hoR10 hb11
  have hB11 := hB10.trans (hb11.mono hB10.size)
  clear hoL10 hoA10 hoS10 hoB10 hoW10 hoN10 hoR10 hB10 hb11 hso
  have hss := specOwners_any va a ak an w11 (rdG_owns dtW hoA11) (by omega)
  have HSH : Hid (ownersT a ak an ≠ [] → (ownersT a ak an).getD 0 0 = ownT a ak ∧ ((ownersT a ak an).length : Int) ≤ an) := fun h => owners_head h
  have HSU : Hid (∀ i, i < (ownersT a ak an).length → (ownersT a ak an).getD i 0 ∉ (ownersT a ak an).take i) := fun i hi => owners_unlike hi
  have hSl := owners_len a ak an
  obtain ⟨S, hS⟩ : ∃ S, S = ownersT a ak an := ⟨_, rfl⟩
  rw [← hS] at hss HSH HSU hSl hoS11
  clear hS
  go_wp2_with fail
  refine (hss).mono ?_
  rintro e w12 ⟨vq, rfl, hnQ12, hb12⟩
  have hoL12 := owns_below hoL11 hb12
  have hoA12 := owns_below hoA11 hb12
  have hoS12 := owns_below hoS11 hb12
  have hoB12 := owns_below hoB11 hb12
  have hoW12 := owns_below hoW11 hb12
  have hoN12 := owns_below hoN11 hb12
  have hoR12 := owns_below hoR11 hb12
  have hB12 := hB11.trans (hb12.mono hB11.size)
  have hoQ12 := owns_base hnQ12 hB11.size
  clear hoL11 hoA11 hoS11 hoB11 hoW11 hoN11 hoR11 hB11 hb12 hnQ12 hss
  have hli := likeInts_any vs vq S S w12 (rd_owns hoS12) (rd_owns hoQ12) (by omega) (by omega)
  rw [decide_eq_true rfl] at hli
  go_wp2_with fail
  refine (hli).mono ?_
  rintro e w13 ⟨rfl, hb13⟩
  have hoL13 := owns_below hoL12 hb13
  have hoA13 := owns_below hoA12 hb13
  have hoS13 := owns_below hoS12 hb13
  have hoB13 := owns_below hoB12 hb13
  have hoW13 := owns_below hoW12 hb13
  have hoN13 := owns_below hoN12 hb13
  have hoR13 := owns_below hoR12 hb13
  have hoQ13 := owns_below hoQ12 hb13
  have hB13 := hB12.trans (hb13.mono hB12.size)
  clear hoL12 hoA12 hoS12 hoB12 hoW12 hoN12 hoR12 hoQ12 hB12 hb13 hli
  clear hoQ13
  have hsw := specWithout_any vb b gone w13 (rdG_owns dtW hoB13) (by omega)
  have HW1 : Hid (0 ≤ gone → ∀ x, ownT (withoutT b gone) x ≠ gone) := fun h x => without_own h
  have HW2 : Hid (withoutT b gone ≠ [] → ∀ x, 0 ≤ x → ownT b x ≠ gone → ownT (withoutT b gone) x = ownT b x) := fun h x hx ho => without_same h hx ho
  have HW3 : Hid (withoutT b gone ≠ [] → ∀ x, 0 ≤ x → ownT b x = gone → ownersT b x 2 = [gone, ownT (withoutT b gone) x]) := fun h x hx ho => without_next h hx ho
  have hWl : (withoutT b gone).length ≤ 256 := Nat.le_trans (without_len b gone) hbl
  obtain ⟨Wd, hWd⟩ : ∃ Wd, Wd = withoutT b gone := ⟨_, rfl⟩
  rw [← hWd] at hsw HW1 HW2 HW3 hWl hoW13
  clear hWd
  go_wp2_with fail
  refine (hsw).mono ?_
  rintro e w14 ⟨vy, rfl, hnY14, hb14⟩
  have hoL14 := owns_below hoL13 hb14
  have hoA14 := owns_below hoA13 hb14
  have hoS14 := owns_below hoS13 hb14
  have hoB14 := owns_below hoB13 hb14
  have hoW14 := owns_below hoW13 hb14
  have hoN14 := owns_below hoN13 hb14
  have hoR14 := owns_below hoR13 hb14
  have hB14 := hB13.trans (hb14.mono hB13.size)
  have hoY14 := owns_base hnY14 hB13.size
  clear hoL13 hoA13 hoS13 hoB13 hoW13 hoN13 hoR13 hB13 hb14 hnY14 hsw
  have hld := likeDots_any vw vy Wd Wd w14 (rdG_owns dtW hoW14) (rdG_owns dtW hoY14) (by omega) (by omega)
  rw [decide_eq_true rfl] at hld
  go_wp2_with fail
  refine (hld).mono ?_
  rintro e w15 ⟨rfl, hb15⟩
  have hoL15 := owns_below hoL14 hb15
  have hoA15 := owns_below hoA14 hb15
  have hoS15 := owns_below hoS14 hb15
  have hoB15 := owns_below hoB14 hb15
  have hoW15 := owns_below hoW14 hb15
  have hoN15 := owns_below hoN14 hb15
  have hoR15 := owns_below hoR14 hb15
  have hoY15 := owns_below hoY14 hb15
  have hB15 := hB14.trans (hb15.mono hB14.size)
  clear hoL14 hoA14 hoS14 hoB14 hoW14 hoN14 hoR14 hoY14 hB14 hb15 hld
  clear hoY15
  have hro := implRingOk_any vl l w15 (rdG_owns dtW hoL15) (by omega)
  have hso2 := Lib.hid (fun (W : World) (h : RdG dtf 2 W vl l) => specRingOk_any vl l W h (by omega))
  have hner : (decide (RingP l) != decide (RingP l)) = false := by simp
  generalize decide (RingP l) = rl at hro hso2 hner
  go_wp2_with fail
  refine (hro).mono ?_
  rintro e w16 ⟨rfl, hb16⟩
  have hoL16 := owns_below hoL15 hb16
  have hoA16 := owns_below hoA15 hb16
  have hoS16 := owns_below hoS15 hb16
  have hoB16 := owns_below hoB15 hb16
  have hoW16 := owns_below hoW15 hb16
  have hoN16 := owns_below hoN15 hb16
  have hoR16 := owns_below hoR15 hb16
  have hB16 := hB15.trans (hb16.mono hB15.size)
  clear hoL15 hoA15 hoS15 hoB15 hoW15 hoN15 hoR15 hB15 hb16 hro
  have hso3 := hso2.out w16 (rdG_owns dtW hoL16)
  go_wp2_with fail
  refine (hso3).mono ?_
  rintro e w17 ⟨rfl, hb17⟩
  have hoL17 := owns_below hoL16 hb17
  have hoA17 := owns_below hoA16 hb17
  have hoS17 := owns_below hoS16 hb17
  have hoB17 := owns_below hoB16 hb17
  have hoW17 := owns_below hoW16 hb17
  have hoN17 := owns_below hoN16 hb17
  have hoR17 := owns_below hoR16 hb17
  have hB17 := hB16.trans (hb17.mono hB16.size)
  clear hoL16 hoA16 hoS16 hoB16 hoW16 hoN16 hoR16 hB16 hb17 hso3 hso2
  clear hoL17
  obtain ⟨ss, cs, hvs⟩ := owns_slice hoS17
  obtain ⟨aw, cw, hvw⟩ := ownG_shape hoW17
  obtain ⟨ar, cr, hvr⟩ := ownG_shape hoR17
  obtain ⟨sn, hsn⟩ : ∃ sn, sn = S.length := ⟨_, rfl⟩
  obtain ⟨wn, hwn⟩ : ∃ wn, wn = Wd.length := ⟨_, rfl⟩
  obtain ⟨rn, hrn⟩ : ∃ rn, rn = R.length := ⟨_, rfl⟩
  obtain ⟨xn, hxn⟩ : ∃ xn, xn = xs.length := ⟨_, rfl⟩
  have HSN := Lib.hid hsn
  have HWNn := Lib.hid hwn
  have HROWS : Hid (∀ W, Below w17.heap.size w17 W → W.ownsRow w.heap.size 2 1 vs sn (cellsInt64S S) ∧ OwnD W w.heap.size vb b ∧ OwnD W w.heap.size vw Wd ∧ OwnD W w.heap.size vr R) := fun W h => by
    have e0 := HW0.out
    subst e0
    exact ⟨by rw [hsn]; exact owns_base (owns_below hoS17 h) (Nat.le_refl _), owns_below hoB17 h, owns_below hoW17 h, owns_below hoR17 h⟩
  have HOA := Lib.hid (fun (W : World) (h : Below w17.heap.size w17 W) => implOwner_any va a ak W (rdG_owns dtW (owns_below hoA17 h)) (by omega))
  have HBW : Hid (∀ W, Below w17.heap.size w17 W → Below w.heap.size w W) := fun W h => hB17.trans (h.mono hB17.size)
  have HRR2 : Hid (F1 = true → decide (RingP R) = true ∧ (rn : Int) ≤ (xn : Int) * d) := fun h => by rw [hrn, hxn]; exact HRR.out h
  have hP : ∃ P : Int, P = (xn : Int) * d ∧ -64 ≤ P ∧ P ≤ 64 := by
    refine ⟨_, rfl, ?_⟩
    have h7 : xn ≤ 7 := by omega
    rcases (show xn = 0 ∨ xn = 1 ∨ xn = 2 ∨ xn = 3 ∨ xn = 4 ∨ xn = 5 ∨ xn = 6 ∨ xn = 7 by omega) with h | h | h | h | h | h | h | h <;> (rw [h]; omega)
  obtain ⟨P, hPe, hP0, hP1⟩ := hP
  rw [← hPe] at HRR2
  have HPE := Lib.hid hPe
  have HROK := Lib.hid (fun (W : World) (h : OwnD W w.heap.size vr R) => implRingOk_any vr R W (rdG_owns dtW h) (by omega))
  rw [← hsn] at hvs HSU
  rw [← hwn] at hvw hWl
  rw [← hrn] at hvr hRl
  rw [← hxn]
  have HSH2 : Hid (S ≠ [] → S.getD 0 0 = ownT a ak ∧ (sn : Int) ≤ an) := fun h => by rw [hsn]; exact HSH.out h
  have hsn256 : sn ≤ 256 := by omega
  clear HRR HSH hsn hwn hrn hxn hxr hPe hSl hoA17 hoS17 hoB17 hoW17 hoN17 hoR17
  subst hvs
  subst hvw
  subst hvr
  have hbM : Below w17.heap.size w17 w17 := Below.refl _ _
  by_cases hS0 : S = []
  · have hsn0 : sn = 0 := by rw [HSN.out, hS0]; rfl
    have hsnI : ¬ (0 : Int) < (sn : Int) := by omega
    have hsnN : ¬ 0 < sn := by omega
    have g0 : decide (0 < sn) = false := decide_eq_false (by omega)
    have HSN0 := Lib.hid hsn0
    clear hsn0
    have hbN := Lib.hid hbM
    clear hbM
    go_wp2
    go_quiet (fail)
    go_wp2
    go_loopw [19] (fun v19 wr => ∃ k : Nat, v19 = .int .i64 (k : Int) ∧ k ≤ sn ∧ Below w17.heap.size w17 wr) (fun i _ => sn - (intOf i).toNat)
    case atStart => exact ⟨0, rfl, Nat.zero_le _, by first | exact hbM | exact hbN.out | exact hbN.out.drew | exact below_drewN hbN.out _⟩
    case round =>
      rename World => wr
      obtain ⟨k, rfl, hk, hb⟩ := hrel
      try clear hbM
      try clear hbN
      by_cases hltk : k < sn
      · have hltI : (k : Int) < (sn : Int) := by omega
        exact absurd hltk (by have := HSN0.out; omega)
      · have hkE : ¬ (k : Int) < (sn : Int) := by omega
        have hbQ := hb
        clear hb
        go_wp2
        go_loopw [20] (fun v20 wr => ∃ k : Nat, v20 = .int .i64 (k : Int) ∧ k ≤ 12 ∧ Below w17.heap.size w17 wr) (fun i _ => 12 - (intOf i).toNat)
        case atStart => exact ⟨0, rfl, Nat.zero_le _, hbQ⟩
        case round =>
          rename World => wz
          obtain ⟨m, rfl, hm, hb⟩ := hrel
          clear hbQ
          have hBz := HBW.out wz hb
          by_cases hltm : m < 12
          rotate_left
          · have hltI : ¬ (m : Int) < 12 := by omega
            obtain ⟨_, _, _, hoR⟩ := HROWS.out wz hb
            have hrk := HROK.out wz hoR
            cases F1 with
            | false =>
              have HB := Lib.hid hBz
              clear hrk hoR hBz hb HROWS HOA HBW HROK HRR2 HPK HW1 HW2 HW3 HSH2 HSU
              go_wp2
              go_ret
              exact ⟨rfl, HB.out⟩
            | true =>
              obtain ⟨h1, h2⟩ := HRR2.out rfl
              rw [h1] at hrk
              have hmul1 : IntKind.i64.wrap ((xn : Int) * d) = P := by rw [← HPE.out]; exact IntWalk.i64_in _ ⟨by omega, by omega⟩
              have hmul2 : (xn : Int) * d = P := HPE.out.symm
              have hwd : IntKind.i64.wrap d = d := IntWalk.i64_in _ ⟨by omega, by omega⟩
              clear hoR hb HROWS HOA HBW HROK HRR2 HPK HW1 HW2 HW3 HSH2 HSU h1
              go_wp2_with fail
              refine hrk.mono ?_
              rintro e w99 ⟨rfl, hb99⟩
              have HB := Lib.hid (hBz.trans (hb99.mono hBz.size))
              clear hrk hBz hb99
              go_wp2
              go_ret
              exact ⟨by first | rfl | simp, HB.out⟩
          have hmI : (m : Int) < 12 := by omega
          have hpk := HPK.out (10 + (m : Int)) 100000 wz hBz (by omega) (by omega) (by omega) (by omega)
          go_wp2_with fail
          refine hpk.mono ?_
          rintro e z1 ⟨r, rfl, hr0, hr1, hbz1⟩
          have hb1 := hb.trans (hbz1.mono hb.size)
          obtain ⟨_, hoB1, hoW1, _⟩ := HROWS.out z1 hb1
          have how := implOwner_any vb b (r * 7) z1 (rdG_owns dtW hoB1) (by omega)
          have hr7 : 0 ≤ r * 7 := by omega
          have hw1 := Lib.hid (fun h => HW1.out h (r * 7))
          have hw2 := Lib.hid (fun h => HW2.out h (r * 7) hr7)
          have hw3 := Lib.hid (fun h => HW3.out h (r * 7) hr7)
          clear hpk hbz1 hBz hb
          obtain ⟨one, hone⟩ : ∃ one, one = ownT b (r * 7) := ⟨_, rfl⟩
          rw [← hone] at how hw2 hw3
          clear hone
          go_wp2_with fail
          refine how.mono ?_
          rintro e z2 ⟨rfl, hbz2⟩
          have hb2 := hb1.trans (hbz2.mono hb1.size)
          have hoW2 := owns_below hoW1 hbz2
          have hoB2 := owns_below hoB1 hbz2
          have hot := implOwner_any _ Wd (r * 7) z2 (rdG_owns dtW hoW2) (by have := HWNn.out; omega)
          clear how hbz2 hb1 hoW1 hoB1
          obtain ⟨two, htwo⟩ : ∃ two, two = ownT Wd (r * 7) := ⟨_, rfl⟩
          rw [← htwo] at hot hw1 hw2 hw3
          clear htwo
          go_wp2_with fail
          refine hot.mono ?_
          rintro e z3 ⟨rfl, hbz3⟩
          have hb3 := hb2.trans (hbz3.mono hb2.size)
          have hoB3 := owns_below hoB2 hbz3
          clear hot hbz3 hb2 hoB2 hoW2
          have hnext := implOwners_any vb b (r * 7) 2 z3 (rdG_owns dtW hoB3) (by omega)
          by_cases hW0 : Wd = []
          · have hwn0 : wn = 0 := by rw [HWNn.out, hW0]; rfl
            have hwI : ¬ (0 : Int) < (wn : Int) := by omega
            have hwD : decide (0 < wn) = false := decide_eq_false (by omega)
            have hwN : ¬ 0 < wn := by omega
            clear hwn0
            have HB := Lib.hid hb3
            by_cases htg : two = gone
            · have hgn : ¬ 0 ≤ gone := fun h => hw1.out h htg
              have g1 : (two == gone) = true := by simp [htg]
              clear hw1 hw2 hw3 hnext hb3 hoB3
              subst htg
              go_wp2
              go_roundw
              case rel => exact ⟨m + 1, by go_num, by omega, HB.out⟩
              case measure => simp [intOf]; omega
            · have g1 : (two == gone) = false := by simp [htg]
              clear hw1 hw2 hw3 hnext hb3 hoB3
              go_wp2
              go_roundw
              case rel => exact ⟨m + 1, by go_num, by omega, HB.out⟩
              case measure => simp [intOf]; omega
          · have hwp : 0 < wn := by rw [HWNn.out]; exact List.length_pos_iff.2 hW0
            have hwI : (0 : Int) < (wn : Int) := by omega
            have hwD : decide (0 < wn) = true := decide_eq_true hwp
            by_cases hog : one = gone
            · have hown2 := hw3.out hW0 hog
              rw [hown2] at hnext
              have g1 : (one == gone) = true := by simp [hog]
              have g2 : (one != gone) = false := by simp [hog]
              by_cases htg : two = gone
              · have hgn : ¬ 0 ≤ gone := fun h => hw1.out h htg
                have g3 : (two == gone) = true := by simp [htg]
                have g4 : (two != two) = false := by simp
                clear hw1 hw2 hw3 hown2
                subst htg
                subst hog
                go_wp2_with fail
                refine hnext.mono ?_
                rintro e z4 ⟨v4, rfl, ho4, hbz4⟩
                obtain ⟨g9, c9, hv4, c1⟩ : ∃ g9 c9, v4 = .slice (some ⟨g9, 0, none⟩) 2 c9 ∧ z4.cell? ⟨g9, 1, none⟩ = some (.int .i64 one) := by
                  rcases ho4.2 with ⟨_, h0⟩ | ⟨g9, cap9, cur9, rfl, _⟩
                  · simp at h0
                  · exact ⟨g9, cap9, rfl, ho4.cellAt 1 (by simp)⟩
                have HB := Lib.hid (hb3.trans (hbz4.mono hb3.size))
                clear hnext ho4 hbz4 hb3 hoB3
                subst hv4
                go_wp2
                go_roundw
                case rel => exact ⟨m + 1, by go_num, by omega, HB.out⟩
                case measure => simp [intOf]; omega
              · have g3 : (two == gone) = false := by simp [htg]
                have g4 : (two != two) = false := by simp
                clear hw1 hw2 hw3 hown2
                subst hog
                go_wp2_with fail
                refine hnext.mono ?_
                rintro e z4 ⟨v4, rfl, ho4, hbz4⟩
                obtain ⟨g9, c9, hv4, c1⟩ : ∃ g9 c9, v4 = .slice (some ⟨g9, 0, none⟩) 2 c9 ∧ z4.cell? ⟨g9, 1, none⟩ = some (.int .i64 two) := by
                  rcases ho4.2 with ⟨_, h0⟩ | ⟨g9, cap9, cur9, rfl, _⟩
                  · simp at h0
                  · exact ⟨g9, cap9, rfl, ho4.cellAt 1 (by simp)⟩
                have HB := Lib.hid (hb3.trans (hbz4.mono hb3.size))
                clear hnext ho4 hbz4 hb3 hoB3
                subst hv4
                go_wp2
                go_roundw
                case rel => exact ⟨m + 1, by go_num, by omega, HB.out⟩
                case measure => simp [intOf]; omega
            · have hto := hw2.out hW0 hog
              have g1 : (one == gone) = false := by simp [hog]
              have g2 : (one != gone) = true := by simp [hog]
              have g3 : (one != one) = false := by simp
              have HB := Lib.hid hb3
              clear hw1 hw2 hw3 hnext hb3 hoB3
              subst hto
              go_wp2
              go_roundw
              case rel => exact ⟨m + 1, by go_num, by omega, HB.out⟩
              case measure => simp [intOf]; omega
  · have hsp : 0 < sn := by rw [HSN.out]; exact List.length_pos_iff.2 hS0
    have hspI : (0 : Int) < (sn : Int) := by omega
    have g0 : decide (0 < sn) = true := decide_eq_true hsp
    obtain ⟨hs0, hsle⟩ := HSH2.out hS0
    have HCS : Hid (∃ gb, ss = some ⟨gb, 0, none⟩ ∧ ∀ W, Below w17.heap.size w17 W → W.cell? ⟨gb, 0, none⟩ = some (.int .i64 (ownT a ak))) := by
      obtain ⟨hoS, _⟩ := HROWS.out w17 (Below.refl _ _)
      rcases hoS.2 with ⟨_, h0⟩ | ⟨g9, cap9, cur9, h9, _⟩
      · exact absurd h0 (by omega)
      · simp only [Value.slice.injEq] at h9
        obtain ⟨e1, _, e3⟩ := h9
        refine ⟨g9, e1, fun W hW => ?_⟩
        obtain ⟨hoW, _⟩ := HROWS.out W hW
        subst e1
        rw [← hs0]
        exact (hoW.cellAt 0 (by omega)).trans (ints_get _ S 0 (by rw [← HSN.out]; exact hsp))
    obtain ⟨gb, hgb, hCS⟩ := HCS.out
    have HC := Lib.hid hCS
    have HO2 := Lib.hid (fun (W : World) (h : Below w17.heap.size w17 W) => HOA.out W h)
    generalize ownT a ak = x0 at HC HO2
    have g1 : (x0 != x0) = false := by simp
    have g2 : decide (an < (sn : Int)) = false := decide_eq_false (by omega)
    have HB0 : Hid (Below w17.heap.size w17 w17.drew) := (Below.refl _ _).drew
    have k0 := HC.out _ HB0.out
    clear HCS hCS hs0 hbM
    subst hgb
    go_wp2
    go_region_held (fun W : World => W.cell? ⟨gb, 0, none⟩ = some (.int .i64 x0)) (first | exact k0 | exact k1)
      (first | (go_at_call 6; refine (HO2.out _ HB0.out).mono ?_; rintro e y1 ⟨rfl, hby⟩; have HB1 : Hid (Below w17.heap.size w17 y1) := HB0.out.trans (hby.mono HB0.out.size); have k1 := HC.out _ HB1.out; clear hby))
    have hbM := HB1.out
    go_wp2
    go_loopw [19] (fun v19 wr => ∃ k : Nat, v19 = .int .i64 (k : Int) ∧ k ≤ sn ∧ Below w17.heap.size w17 wr) (fun i _ => sn - (intOf i).toNat)
    case atStart => exact ⟨0, rfl, Nat.zero_le _, by first | exact hbM | exact hbN.out | exact hbN.out.drew | exact below_drewN hbN.out _⟩
    case round =>
      rename World => wr
      obtain ⟨k, rfl, hk, hb⟩ := hrel
      try clear hbM
      try clear hbN
      by_cases hltk : k < sn
      · have hltI : (k : Int) < (sn : Int) := by omega
        obtain ⟨hoS, _, _, _⟩ := HROWS.out wr hb
        have hun := HSU.out k hltk
        have hoS2 : wr.ownsRow w.heap.size 2 1 (.slice (some ⟨gb, 0, none⟩) S.length cs) S.length (cellsInt64S S) := by rw [← HSN.out]; exact hoS
        obtain ⟨u, hsl, hou, _⟩ := own_take hoS2 k (by rw [← HSN.out]; omega)
        rw [← HSN.out] at hsl
        have hcell : wr.cell? ⟨gb, k, none⟩ = some (.int .i64 (S.getD k 0)) := (hoS.cellAt k (by omega)).trans (ints_get _ S k (by rw [← HSN.out]; exact hltk))
        have hhas := Lib.hid (fun (dd : Nat) => hasL_any u (S.take k) (S.getD k 0) (wr.drewN dd) (rd_below (rd_owns hou) (below_drewN (Below.refl _ _) _)) (by rw [List.length_take]; omega))
        have hcn : (S.take k).contains (S.getD k 0) = false := by
          cases e9 : (S.take k).contains (S.getD k 0) with
          | false => rfl
          | true => exact absurd (by simpa using e9) hun
        have HHQ : Hid (∀ dd : Nat, Calls Tryd.prog 21 #[u, .int .i64 (S.getD k 0)] (wr.drewN dd) fun e w' => e = .returned (.bool false) ∧ w' = wr.drewN dd) := fun dd => by rw [← hcn]; exact hhas.out dd
        generalize S.getD k 0 = x at HHQ hcell
        have HB := Lib.hid hb
        clear hhas hcn hun hoS hoS2 hou hb
        go_wp2
        go_quiet (first | (go_at_call 21; refine (HHQ.out _).mono ?_; rintro e w8 ⟨rfl, rfl⟩; exact ⟨rfl, ⟨_, rfl⟩⟩))
        go_wp2
        go_roundw
        case rel => exact ⟨k + 1, by go_num, by omega, by first | exact below_drewN HB.out _ | exact HB.out⟩
        case measure => simp [intOf]; omega
      · have hkE : ¬ (k : Int) < (sn : Int) := by omega
        have hbQ := hb
        clear hb
        go_wp2
        go_loopw [20] (fun v20 wr => ∃ k : Nat, v20 = .int .i64 (k : Int) ∧ k ≤ 12 ∧ Below w17.heap.size w17 wr) (fun i _ => 12 - (intOf i).toNat)
        case atStart => exact ⟨0, rfl, Nat.zero_le _, hbQ⟩
        case round =>
          rename World => wz
          obtain ⟨m, rfl, hm, hb⟩ := hrel
          clear hbQ
          have hBz := HBW.out wz hb
          by_cases hltm : m < 12
          rotate_left
          · have hltI : ¬ (m : Int) < 12 := by omega
            obtain ⟨_, _, _, hoR⟩ := HROWS.out wz hb
            have hrk := HROK.out wz hoR
            cases F1 with
            | false =>
              have HB := Lib.hid hBz
              clear hrk hoR hBz hb HROWS HOA HBW HROK HRR2 HPK HW1 HW2 HW3 HSH2 HSU
              go_wp2
              go_ret
              exact ⟨rfl, HB.out⟩
            | true =>
              obtain ⟨h1, h2⟩ := HRR2.out rfl
              rw [h1] at hrk
              have hmul1 : IntKind.i64.wrap ((xn : Int) * d) = P := by rw [← HPE.out]; exact IntWalk.i64_in _ ⟨by omega, by omega⟩
              have hmul2 : (xn : Int) * d = P := HPE.out.symm
              have hwd : IntKind.i64.wrap d = d := IntWalk.i64_in _ ⟨by omega, by omega⟩
              clear hoR hb HROWS HOA HBW HROK HRR2 HPK HW1 HW2 HW3 HSH2 HSU h1
              go_wp2_with fail
              refine hrk.mono ?_
              rintro e w99 ⟨rfl, hb99⟩
              have HB := Lib.hid (hBz.trans (hb99.mono hBz.size))
              clear hrk hBz hb99
              go_wp2
              go_ret
              exact ⟨by first | rfl | simp, HB.out⟩
          have hmI : (m : Int) < 12 := by omega
          have hpk := HPK.out (10 + (m : Int)) 100000 wz hBz (by omega) (by omega) (by omega) (by omega)
          go_wp2_with fail
          refine hpk.mono ?_
          rintro e z1 ⟨r, rfl, hr0, hr1, hbz1⟩
          have hb1 := hb.trans (hbz1.mono hb.size)
          obtain ⟨_, hoB1, hoW1, _⟩ := HROWS.out z1 hb1
          have how := implOwner_any vb b (r * 7) z1 (rdG_owns dtW hoB1) (by omega)
          have hr7 : 0 ≤ r * 7 := by omega
          have hw1 := Lib.hid (fun h => HW1.out h (r * 7))
          have hw2 := Lib.hid (fun h => HW2.out h (r * 7) hr7)
          have hw3 := Lib.hid (fun h => HW3.out h (r * 7) hr7)
          clear hpk hbz1 hBz hb
          obtain ⟨one, hone⟩ : ∃ one, one = ownT b (r * 7) := ⟨_, rfl⟩
          rw [← hone] at how hw2 hw3
          clear hone
          go_wp2_with fail
          refine how.mono ?_
          rintro e z2 ⟨rfl, hbz2⟩
          have hb2 := hb1.trans (hbz2.mono hb1.size)
          have hoW2 := owns_below hoW1 hbz2
          have hoB2 := owns_below hoB1 hbz2
          have hot := implOwner_any _ Wd (r * 7) z2 (rdG_owns dtW hoW2) (by have := HWNn.out; omega)
          clear how hbz2 hb1 hoW1 hoB1
          obtain ⟨two, htwo⟩ : ∃ two, two = ownT Wd (r * 7) := ⟨_, rfl⟩
          rw [← htwo] at hot hw1 hw2 hw3
          clear htwo
          go_wp2_with fail
          refine hot.mono ?_
          rintro e z3 ⟨rfl, hbz3⟩
          have hb3 := hb2.trans (hbz3.mono hb2.size)
          have hoB3 := owns_below hoB2 hbz3
          clear hot hbz3 hb2 hoB2 hoW2
          have hnext := implOwners_any vb b (r * 7) 2 z3 (rdG_owns dtW hoB3) (by omega)
          by_cases hW0 : Wd = []
          · have hwn0 : wn = 0 := by rw [HWNn.out, hW0]; rfl
            have hwI : ¬ (0 : Int) < (wn : Int) := by omega
            have hwD : decide (0 < wn) = false := decide_eq_false (by omega)
            have hwN : ¬ 0 < wn := by omega
            clear hwn0
            have HB := Lib.hid hb3
            by_cases htg : two = gone
            · have hgn : ¬ 0 ≤ gone := fun h => hw1.out h htg
              have g1 : (two == gone) = true := by simp [htg]
              clear hw1 hw2 hw3 hnext hb3 hoB3
              subst htg
              go_wp2
              go_roundw
              case rel => exact ⟨m + 1, by go_num, by omega, HB.out⟩
              case measure => simp [intOf]; omega
            · have g1 : (two == gone) = false := by simp [htg]
              clear hw1 hw2 hw3 hnext hb3 hoB3
              go_wp2
              go_roundw
              case rel => exact ⟨m + 1, by go_num, by omega, HB.out⟩
              case measure => simp [intOf]; omega
          · have hwp : 0 < wn := by rw [HWNn.out]; exact List.length_pos_iff.2 hW0
            have hwI : (0 : Int) < (wn : Int) := by omega
            have hwD : decide (0 < wn) = true := decide_eq_true hwp
            by_cases hog : one = gone
            · have hown2 := hw3.out hW0 hog
              rw [hown2] at hnext
              have g1 : (one == gone) = true := by simp [hog]
              have g2 : (one != gone) = false := by simp [hog]
              by_cases htg : two = gone
              · have hgn : ¬ 0 ≤ gone := fun h => hw1.out h htg
                have g3 : (two == gone) = true := by simp [htg]
                have g4 : (two != two) = false := by simp
                clear hw1 hw2 hw3 hown2
                subst htg
                subst hog
                go_wp2_with fail
                refine hnext.mono ?_
                rintro e z4 ⟨v4, rfl, ho4, hbz4⟩
                obtain ⟨g9, c9, hv4, c1⟩ : ∃ g9 c9, v4 = .slice (some ⟨g9, 0, none⟩) 2 c9 ∧ z4.cell? ⟨g9, 1, none⟩ = some (.int .i64 one) := by
                  rcases ho4.2 with ⟨_, h0⟩ | ⟨g9, cap9, cur9, rfl, _⟩
                  · simp at h0
                  · exact ⟨g9, cap9, rfl, ho4.cellAt 1 (by simp)⟩
                have HB := Lib.hid (hb3.trans (hbz4.mono hb3.size))
                clear hnext ho4 hbz4 hb3 hoB3
                subst hv4
                go_wp2
                go_roundw
                case rel => exact ⟨m + 1, by go_num, by omega, HB.out⟩
                case measure => simp [intOf]; omega
              · have g3 : (two == gone) = false := by simp [htg]
                have g4 : (two != two) = false := by simp
                clear hw1 hw2 hw3 hown2
                subst hog
                go_wp2_with fail
                refine hnext.mono ?_
                rintro e z4 ⟨v4, rfl, ho4, hbz4⟩
                obtain ⟨g9, c9, hv4, c1⟩ : ∃ g9 c9, v4 = .slice (some ⟨g9, 0, none⟩) 2 c9 ∧ z4.cell? ⟨g9, 1, none⟩ = some (.int .i64 two) := by
                  rcases ho4.2 with ⟨_, h0⟩ | ⟨g9, cap9, cur9, rfl, _⟩
                  · simp at h0
                  · exact ⟨g9, cap9, rfl, ho4.cellAt 1 (by simp)⟩
                have HB := Lib.hid (hb3.trans (hbz4.mono hb3.size))
                clear hnext ho4 hbz4 hb3 hoB3
                subst hv4
                go_wp2
                go_roundw
                case rel => exact ⟨m + 1, by go_num, by omega, HB.out⟩
                case measure => simp [intOf]; omega
            · have hto := hw2.out hW0 hog
              have g1 : (one == gone) = false := by simp [hog]
              have g2 : (one != gone) = true := by simp [hog]
              have g3 : (one != one) = false := by simp
              have HB := Lib.hid hb3
              clear hw1 hw2 hw3 hnext hb3 hoB3
              subst hto
              go_wp2
              go_roundw
              case rel => exact ⟨m + 1, by go_num, by omega, HB.out⟩
              case measure => simp [intOf]; omega
theorem door_met (os : Os) (args : Array Value) : laidMetH Tryd.prog Rows.fnRingsRow.laid ((World.doorLaid Tryd.prog 400 os).forCall (fun _ _ => 0) ⟨#[], args, []⟩).memory :=
  laidMetH_of_parts3 (fuel := 8) (laidMet_of_run' 8 (by kernel_rfl) (by kernel_rfl)) (by kernel_rfl) (by kernel_rfl)
set_option maxRecDepth 100000 in
theorem lifted (os : Os) (started : os.Started) (H : Type) (enc : TypeId × Value → H) :
    ReturnsInHanded {} Tryd.checked os 3 .any (fun w args => (Rows.fnRingsSpec.pre enc Tryd.prog Tryd.f3 [] false w args ∧ laidMetH Tryd.prog Rows.fnRingsRow.laid w) ∧ sizedMet enc Tryd.prog Tryd.f3 (OpenSpec.ofChange Rows.fnRingsSpec) false w args)
      (Rows.fnRingsSpec.post enc Tryd.prog Tryd.f3 false true false false) := by
  refine returnsInHanded_of_change_and (C := Tryd.checked) (X := fun w _ => laidMetH Tryd.prog Rows.fnRingsRow.laid w) (fun _ _ _ hh h => h.of_heap hh) own started (by kernel_rfl) Tryd.func3
    (ChangeSpec.witness_shaped (enc := enc) (C := Tryd.checked) (os := os) (X := fun w _ => laidMetH Tryd.prog Rows.fnRingsRow.laid w) false (World.doorLaid Tryd.prog 400 os) #[.slice none 0 0] 8 rfl (World.shaped_of_RefB (by kernel_rfl) (by kernel_rfl)) (by kernel_rfl) (by kernel_rfl) (by kernel_rfl) (door_met os _)) ?_
  intro W base args ds gs before hval0 hW _ _ hL _
  have hval : ∀ (j : Nat) t v, Tryd.f3.params[j]? = some t → args[j]? = some v → Value.okWide Tryd.prog W .any base t v := hval0
  have hW' := hW
  obtain ⟨p, q, hA0, hV, rfl, hfz, hnd⟩ := hW
  have hA : DataW.TrodAll enc Tryd.prog W 0 (fun _ => true) true Tryd.f3.params.toList args.toList ds p := hA0
  rw [Tryd.params3] at hA hval
  obtain ⟨v0, vs0, d0, ds0, p0, q0, hargs0, rfl, rfl, h0, r0⟩ := trodAll_cons hA
  obtain ⟨rfl, rfl, rfl⟩ := trodAll_nil r0
  obtain rfl : args = #[v0] := by cases args; simp_all
  obtain ⟨rfl, rfl⟩ := trodVars_none hV
  obtain ⟨a0, len0, cap0, rfl⟩ := okWide_slice Tryd.underlying22 (hval 0 22 v0 rfl rfl)
  have k0 := h0
  have lt0 : ∀ x ∈ p0, x.block < W.heap.size := by obtain ⟨m, hm⟩ := k0; exact DataW.trod_lt m _ _ _ hm
  obtain ⟨zs0, hr0, hs0⟩ : ∃ zs : List Int, Rd W (.slice a0 len0 cap0) (zs.map (Value.int .u8)) ∧ ((∀ n ∈ zs, (Lit.int .u8 n).wf = true) ∧ zs.length ≤ 9223372036854775807) := by
    obtain ⟨fuel, hf⟩ := h0
    rcases open_ints Tryd.underlying22 Tryd.underlying5 (by kernel_rfl) hf with ⟨hcs, _⟩ | ⟨x, l, c, zs, hcs, _, hl, hm, hz, _, hcell, hwz⟩
    · simp [Value.cells] at hcs
      obtain ⟨rfl, rfl, rfl⟩ := hcs
      exact ⟨[], ⟨none, 0, rfl, Nat.le_refl _, fun h => absurd rfl h⟩, (fun x hx => absurd hx List.not_mem_nil), Nat.zero_le _⟩
    · simp [Value.cells] at hcs
      obtain ⟨rfl, rfl, rfl⟩ := hcs
      exact arg_ints .u8 hl hm (by simpa using hz) hcell hwz
  clear hA0 hval0
  refine (walk _ zs0 W hr0 (wf_bytes hs0.1) hs0.2).mono fun e W' ⟨he, bel⟩ => ?_
  subst he
  exact ⟨_, rfl, _, _, _, [], _, [], hW', trodAll_mk1 (shut_bool Tryd.underlying4 _), (trodAll_cons_mk (Below.trod laidOut (by kernel_rfl) (of_decide_eq_true (by kernel_rfl)) k0 bel lt0) trodAll_mk0), rfl, bel.frame _, fun h => by cases h⟩

theorem over : Rows.fnRingsRow.holds Tryd.pinned (OpenSpec.ofChange Rows.fnRingsSpec) :=
  OpenClaim.holds_of_wide 3 Tryd.f3 rfl rfl rfl rfl rfl rfl rfl ⟨rfl, rfl, rfl, rfl, rfl⟩ rfl rfl rfl rfl rfl (by kernel_rfl) Tryd.func3 (by kernel_rfl)
    (of_decide_eq_true (by kernel_rfl)) (by unfold Func.isWrapper; first | (rw [if_pos (by decide +kernel)]; kernel_rfl) | (rw [if_neg (by decide +kernel)]; exact ⟨rfl, rfl⟩))
    (fun os started H enc _ => lifted os started H enc)

theorem proved : Rows.FnRingsCardSaid :=
  Claim7.holds_tied_plain_at .later [] Rows.fnRingsCard.laidKinds true Rows.fnRingsCard.stood.harness Rows.fnRingsCard.stood.looks
    over (fun _ h => by cases h) (by kernel_rfl) (fun _ h => by cases h) fnRings_row_tie rfl ⟨rfl, rfl⟩ (by kernel_rfl) rfl
    (fun f fn hf hfn => by
      obtain rfl : f = 3 := Option.some.inj ((show Tryd.prog.funcNamed Rows.fnRingsRow.func = some 3 by kernel_rfl).symm.trans hf) |>.symm
      obtain rfl : fn = Tryd.f3 := (Option.some.inj (Tryd.func3.symm.trans hfn)).symm
      exact ⟨by kernel_rfl, fun j t ht => by
        rw [Tryd.params3] at ht
        have hm : t ∈ [22] := by simpa using Array.mem_of_getElem? ht
        have hall : ([22].all fun u => !Tryd.prog.wantsStandIn u) = true := by kernel_rfl
        exact (show Tryd.prog.wantsStandIn t = false by simpa using List.all_eq_true.1 hall t hm)⟩)
    (by kernel_rfl)
end Go.Proofs.YtjjaephhnlhnkacDoor.fnRings
