/- FnJoining: with one node more a key is owned as it was, or by that one. For every code, without a condition. -/
import Derived.Test.YtjjaephhnlhnkafDoorDrawsQ
import Derived.Test.YtjjaephhnlhnkafDoorRngE
import Derived.Test.YtjjaephhnlhnkafDoorRngO
import Derived.Test.YtjjaephhnlhnkafDoorRngJ
import Derived.Test.YtjjaephhnlhnkafDoorHasL
import Derived.Test.YtjjaephhnlhnkafDoorPick
import Derived.Test.YtjjaephhnlhnkafDoorArgs
import Derived.Test.YtjjaephhnlhnkafDoorCards
import Derived.Test.YtjjaephhnlhnkafDoorTie
import Derived.SevenTiedAt
import Derived.LaidMore
import Derived.Stop.Joined
namespace Go.Proofs.YtjjaephhnlhnkafDoor.fnJoining
open Go.ChangeShapes Go.WideShapes Go.ChangeAt Go.RowKit
set_option linter.unusedVariables false
theorem newT_len (l : List Int) (dots : Int) : (newT l dots).1.length ≤ 256 := by
  unfold newT
  split
  · rename_i h
    have h1 := ringN_le dots.toNat l []
    have h2 := h.1.1.2
    have h3 : l.length * dots.toNat ≤ 16 * 8 := Nat.mul_le_mul h2 (by have := h.2.2; omega)
    simp only [List.length_nil] at h1
    show (ringN _ _ _).length ≤ 256
    omega
  · exact Nat.zero_le _
set_option maxHeartbeats 8000000 in
set_option maxRecDepth 100000 in
theorem walk (va : Value) (bs : List Int) (w : World) (ha : Rd w va (cellsByteS bs)) (hz : Bytes bs) (hn : bs.length ≤ 9223372036854775807) :
    Calls Tryd.prog 3 #[va] w fun e w' => e = .returned (.bool true) ∧ Below w.heap.size w w' := by
  have hla : (cellsByteS bs).length = bs.length := by simp
  obtain ⟨ao, cap, hval, hcap, _⟩ := id ha
  rw [hla] at hval hcap
  by_cases hbig : bs.length ≤ 4096
  rotate_left
  focus
    subst hval
    have hbI : (4096 : Int) < (bs.length : Int) := by omega
    have hbg : Calls Tryd.prog 4 #[.slice ao bs.length cap] w fun e w' => e = .returned (.bool true) ∧ w' = w := by
      clear ha hz
      go_enter Tryd.func4, Tryd.ntmps4
      go_wp2
      go_ret
      exact ⟨by first | rfl | (congr 1; simp; omega), rfl⟩
    clear ha hz
    go_enter Tryd.func3, Tryd.ntmps3
    go_wp2_with fail
    refine hbg.mono ?_
    rintro e w1 ⟨rfl, rfl⟩
    go_wp2
    go_ret
    exact ⟨rfl, Below.refl _ _⟩
  have hbI : ¬ (4096 : Int) < (bs.length : Int) := by omega
  have hbg : Calls Tryd.prog 4 #[.slice ao bs.length cap] w fun e w' => e = .returned (.bool false) ∧ w' = w := by
    clear ha hz
    go_enter Tryd.func4, Tryd.ntmps4
    go_wp2
    go_ret
    exact ⟨by first | rfl | (congr 1; simp; omega), rfl⟩
  subst hval
  have HZ := Lib.hid (bytes_allQ hz)
  have hdr := drawNewRing_any (.slice ao bs.length cap) bs w ha hbig hz
  have HPK := Lib.hid (fun (seed n : Int) (W : World) (h : Below w.heap.size w W) (h0 : 0 ≤ seed) (h1 : seed ≤ 1000000) (hn : 0 < n) (hn2 : n ≤ 4611686018427387903) => pick_any (.slice ao bs.length cap) bs seed n W (rd_below ha h) hbig HZ.out h0 h1 hn hn2)
  clear hz ha hbI hn
  go_enter Tryd.func3, Tryd.ntmps3
  go_wp2_with fail
  refine hbg.mono ?_
  rintro e w0 ⟨rfl, hw0⟩
  replace hw0 := hw0.symm
  subst hw0
  clear hbg
  go_wp2_with fail
  refine hdr.mono ?_
  rintro e w1 ⟨vn, xs, d, rfl, hxl, hxr, hd0, hd9, hoN1, hB1⟩
  clear hdr
  have hs1 := hB1.size
  have HIM : Hid (∀ (W : World) (v : Value) (ys : List Int), Rd W v (cellsInt64S ys) → ys.length ≤ 1048576 → Calls Tryd.prog 6 #[v, .int .i64 d] W fun e w' => ∃ u, e = .returned (.tuple #[u, .bool (newT ys d).2]) ∧ OwnD w' W.heap.size u (newT ys d).1 ∧ Below W.heap.size W w') := fun W v ys h hl => implNewRing_any v ys d W h hl
  have hsp : ∀ (W : World) (v : Value), Rd W v (cellsInt64S xs) → Calls Tryd.prog 7 #[v, .int .i64 d] W fun e w' => ∃ u, e = .returned (.tuple #[u, .bool (newT xs d).2]) ∧ OwnD w' W.heap.size u (newT xs d).1 ∧ Below W.heap.size W w' := fun W v h => specNewRing_any v xs d W h (by omega)
  have him := HIM.out w1 vn xs (rd_owns hoN1) (by omega)
  have hlen1 := newT_len xs d
  have HOK : Hid ((newT xs d).2 = true → NodesP xs 15 ∧ 1 ≤ d ∧ d ≤ 8) := fun h => by
    unfold newT at h
    by_cases hk : NodesP xs 15 ∧ 1 ≤ d ∧ d ≤ 8
    · exact hk
    · rw [if_neg hk] at h; cases h
  have HR1 : Hid (NodesP xs 15 ∧ 1 ≤ d ∧ d ≤ 8 → (newT xs d).1 = ringN d.toNat xs []) := fun h => by
    unfold newT
    rw [if_pos h]
  generalize (newT xs d).1 = R1 at him hsp hlen1 HR1
  generalize (newT xs d).2 = F1 at him hsp HOK
  have hne : (F1 != F1) = false := by simp
  obtain ⟨an, cn, hvn⟩ := owns_slice hoN1
  subst hvn
  go_wp2_with fail
  refine him.mono ?_
  rintro e w2 ⟨vr, rfl, hoR2, hb2⟩
  have hoN2 := owns_below hoN1 hb2
  have hB2 := hB1.trans (hb2.mono hs1)
  have hs2 := hB2.size
  have hoR2 := owns_base hoR2 hs1
  have hsp2 := hsp w2 _ (rd_owns hoN2)
  clear him hoN1 hB1 hb2 hsp
  go_wp2_with fail
  refine hsp2.mono ?_
  rintro e w3 ⟨vx, rfl, hoX3, hb3⟩
  have hoN3 := owns_below hoN2 hb3
  have hoR3 := owns_below hoR2 hb3
  have hB3 := hB2.trans (hb3.mono hs2)
  have hs3 := hB3.size
  have hlk := likeDots_any vr vx R1 R1 w3 (rdG_owns dtW hoR3) (rdG_owns dtW hoX3) (by omega) (by omega)
  rw [decide_eq_true rfl] at hlk
  clear hsp2 hoN2 hoR2 hoX3 hB2 hb3
  go_wp2_with fail
  refine hlk.mono ?_
  rintro e w4 ⟨rfl, hb4⟩
  have hoN4 := owns_below hoN3 hb4
  have hoR4 := owns_below hoR3 hb4
  have hB4 := hB3.trans (hb4.mono hs3)
  have hs4 := hB4.size
  clear hlk hoN3 hoR3 hB3 hb4
  cases F1 with
  | false =>
    have HB4 := Lib.hid hB4
    clear hoN4 hoR4 hB4 HIM HPK HOK HR1
    go_wp2
    go_ret
    exact ⟨rfl, HB4.out⟩
  | true =>
    obtain ⟨hnp, hd1, hd8⟩ := HOK.out rfl
    have hR1 := HR1.out ⟨hnp, hd1, hd8⟩
    have hhas := hasL_any _ xs 14 w4 (rd_owns hoN4) (by omega)
    clear HOK HR1
    by_cases h14 : 14 ∈ xs
    focus
      have hcn : xs.contains 14 = true := by simpa using h14
      rw [hcn] at hhas
      have HB4 := Lib.hid hB4
      clear hoN4 hoR4 hB4 HIM HPK hR1 hcn
      go_wp2_with fail
      refine hhas.mono ?_
      rintro e w5 ⟨rfl, rfl⟩
      go_wp2
      go_ret
      exact ⟨rfl, HB4.out⟩
    have hcn : xs.contains 14 = false := by
      cases e : xs.contains 14 with
      | false => rfl
      | true => exact absurd (by simpa using e) h14
    rw [hcn] at hhas
    have h16 : ((xs.length : Int) == 16) = false := by simp; omega
    have hlx : xs.length ≤ 15 := by omega
    have hjn := join_nodes hnp (by omega : (0 : Int) ≤ 14) (by omega) h14 hlx
    have hD1 : 1 ≤ d.toNat := by omega
    have hD8 : d.toNat ≤ 8 := by omega
    have hM : newT (xs ++ [14]) d = (ringN d.toNat (xs ++ [14]) [], true) := by unfold newT; rw [if_pos ⟨hjn, hd1, hd8⟩]
    have HOWN : Hid (∀ key : Int, 0 ≤ key → ownT R1 key ∈ xs ∧ (ownT (ringN d.toNat (xs ++ [14]) []) key = 14 ∨ ownT (ringN d.toNat (xs ++ [14]) []) key = ownT R1 key)) := fun key hk => by
      rw [hR1]
      exact ⟨owner_in hnp hD1 hD8 hk, join_owner hnp (by omega) (by omega) h14 hlx hD1 hD8 hk⟩
    have hlen2 := newT_len (xs ++ [14]) d
    have HIM2 : Hid (∀ (W : World) (v : Value), Rd W v (cellsInt64S (xs ++ [14])) → Calls Tryd.prog 6 #[v, .int .i64 d] W fun e w' => ∃ u, e = .returned (.tuple #[u, .bool (newT (xs ++ [14]) d).2]) ∧ OwnD w' W.heap.size u (newT (xs ++ [14]) d).1 ∧ Below W.heap.size W w') := fun W v h => HIM.out W v (xs ++ [14]) h (by simp; omega)
    rw [hM] at hlen2 HIM2
    simp only at hlen2 HIM2
    generalize ringN d.toNat (xs ++ [14]) [] = R2 at hlen2 HIM2 HOWN
    clear hM HIM hR1 hcn hjn hnp
    go_wp2_with fail
    refine hhas.mono ?_
    rintro e w5 ⟨rfl, hw5⟩
    replace hw5 := hw5.symm
    subst hw5
    clear hhas
    -- the nodes and 14
    have hlit := (World.ownsRow_lit (base := w4.heap.size) (e := 2) (size := 1) w4 #[] 0 (Nat.le_refl _) (Nat.zero_le _) rfl : (w4.alloc (.cells #[] 2)).ownsRow w4.heap.size 2 1 (.slice (some ⟨w4.heap.size, 0, none⟩) 0 0) ([] : List Int).length (cellsInt64S []))
    have hal := (Below.refl w4.heap.size w4).alloc (Nat.le_refl _) (.cells #[] 2)
    have hsa : w4.heap.size ≤ (w4.alloc (.cells #[] 2)).heap.size := by rw [World.size_alloc]; omega
    have hrdN := rd_below (rd_owns hoN4) hal
    have hl1 : ([] : List Int).length + xs.length ≤ 16777216 := by rw [List.length_nil]; omega
    have hvnb : ∀ q, (Value.slice an xs.length cn).ownBlock = some q → q < w4.heap.size := fun q hq => (hoN4.lt q hq).2
    have hvrb : ∀ q, vr.ownBlock = some q → q < w4.heap.size := fun q hq => (hoR4.lt q hq).2
    go_wp2_with (at_builtin; refine own_step rfl _ _ rfl w4.heap.size (.slice (some ⟨w4.heap.size, 0, none⟩) 0 0) (.slice an xs.length cn) [] xs rfl rfl hlit hrdN hl1 hsa ?_)
    intro v6 w6 ho6 hg6 hi6
    have hb6 : Below w4.heap.size w4 w6 := hal.grown hg6 hsa (fun q hq => by cases hq; exact Nat.le_refl _)
    have hs6 := hb6.size
    have hra := (World.ownsRow_lit (base := w6.heap.size) (e := 2) (size := 1) w6 #[.int .i64 14] 1 (Nat.le_refl _) (by unfold maxLen; omega) rfl : (w6.alloc (.cells #[.int .i64 14] 2)).ownsRow w6.heap.size 2 1 (.slice (some ⟨w6.heap.size, 0, none⟩) 1 1) 1 (cellsInt64S [14]))
    have hoa := ho6.alloc (.cells #[.int .i64 14] 2)
    have hba := hb6.alloc hs6 (.cells #[.int .i64 14] 2)
    have hsA : w4.heap.size ≤ (w6.alloc (.cells #[.int .i64 14] 2)).heap.size := by rw [World.size_alloc]; omega
    have hrq := rd_owns hra
    have hl2 : xs.length + [(14 : Int)].length ≤ 16777216 := by rw [List.length_singleton]; omega
    clear hlit hal hsa hrdN hg6 hi6 ho6 hra hb6
    go_wp2_with (at_builtin; refine own_step rfl _ _ rfl w4.heap.size v6 (.slice (some ⟨w6.heap.size, 0, none⟩) 1 1) xs [14] rfl rfl hoa hrq hl2 hsA ?_)
    intro v7 w7 ho7 hg7 hi7
    have hb7 : Below w4.heap.size w4 w7 := hba.grown hg7 hsA (fun q hq => (hoa.lt q hq).1)
    have hoN7 := owns_below hoN4 hb7
    have hoR7 := owns_below hoR4 hb7
    have hB7 := hB4.trans (hb7.mono hs4)
    have hs7 := hB7.size
    have ho7' : w7.ownsRow w4.heap.size 2 1 v7 (xs ++ [14]).length (cellsInt64S (xs ++ [14])) := by simpa using ho7
    have him2 := HIM2.out w7 v7 (rd_owns ho7')
    clear hoa hba hsA hrq hg7 hi7 hb7 hoN4 hoR4 hB4 HIM2 ho7 ho7' hs6
    go_wp2_with fail
    refine him2.mono ?_
    rintro e w8 ⟨vm, rfl, hoM8, hb8⟩
    have hoN8 := owns_below hoN7 hb8
    have hoR8 := owns_below hoR7 hb8
    have hB8 := hB7.trans (hb8.mono hs7)
    have hs8 := hB8.size
    have hoM8 := owns_base hoM8 hs7
    have HOWN2 := Lib.hid (fun (W : World) (v : Value) (key : Int) (h : OwnD W w.heap.size v R1) => implOwner_any v R1 key W (rdG_owns dtW h) (by omega))
    have HOWN3 := Lib.hid (fun (W : World) (v : Value) (key : Int) (h : OwnD W w.heap.size v R2) => implOwner_any v R2 key W (rdG_owns dtW h) (by omega))
    clear him2 hoN7 hoR7 hB7 hb8 hvnb hvrb
    go_wp2
    go_loopw [11] (fun v11 wr => ∃ k : Nat, v11 = .int .i64 (k : Int) ∧ k ≤ 16 ∧ wr.ownsRow w.heap.size 2 1 (.slice an xs.length cn) xs.length (cellsInt64S xs) ∧ OwnD wr w.heap.size vr R1 ∧ OwnD wr w.heap.size vm R2 ∧ Below w.heap.size w wr) (fun i _ => 16 - (intOf i).toNat)
    case atStart => exact ⟨0, rfl, Nat.zero_le _, hoN8, hoR8, hoM8, hB8⟩
    case round =>
      rename World => wr
      obtain ⟨k, rfl, hk, hoN, hoR, hoM, hB⟩ := hrel
      clear hoN8 hoR8 hoM8 hB8
      have hs := hB.size
      by_cases hltk : k < 16
      rotate_left
      · have HB := Lib.hid hB
        clear hoN hoR hoM hB HOWN2 HOWN3 HPK HOWN
        go_wp2
        go_ret
        exact ⟨rfl, HB.out⟩
      have hpk := HPK.out (30 + (k : Int)) 1000003 wr hB (by omega) (by omega) (by omega) (by omega)
      go_wp2_with fail
      refine hpk.mono ?_
      rintro e w9 ⟨r, rfl, hr0, hr1, hb9⟩
      have hoN9 := owns_below hoN hb9
      have hoR9 := owns_below hoR hb9
      have hoM9 := owns_below hoM hb9
      have hB9 := hB.trans (hb9.mono hs)
      have hs9 := hB9.size
      obtain ⟨hown1, hown2⟩ := HOWN.out (r * 13) (by omega)
      have ha := HOWN2.out w9 vr (r * 13) hoR9
      have hb := HOWN3.out
      clear hpk hoN hoR hoM hB hb9
      have HA1 := Lib.hid hown1
      have HA2 := Lib.hid hown2
      clear hown1 hown2
      generalize ownT R1 (r * 13) = oa at ha HA1 HA2
      go_wp2_with fail
      refine ha.mono ?_
      rintro e w10 ⟨rfl, hb10⟩
      have hoN10 := owns_below hoN9 hb10
      have hoR10 := owns_below hoR9 hb10
      have hoM10 := owns_below hoM9 hb10
      have hB10 := hB9.trans (hb10.mono hs9)
      have hs10 := hB10.size
      have hb11 := hb w10 vm (r * 13) hoM10
      clear ha hb hoN9 hoR9 hoM9 hB9 hb10
      generalize ownT R2 (r * 13) = ob at hb11 HA2
      go_wp2_with fail
      refine hb11.mono ?_
      rintro e w11 ⟨rfl, hb12⟩
      have hoN11 := owns_below hoN10 hb12
      have hoR11 := owns_below hoR10 hb12
      have hoM11 := owns_below hoM10 hb12
      have hB11 := hB10.trans (hb12.mono hs10)
      have hhas2 := hasL_any _ xs oa w11 (rd_owns hoN11) (by omega)
      have hcn2 : xs.contains oa = true := by simpa using HA1.out
      rw [hcn2] at hhas2
      clear hb11 hoN10 hoR10 hoM10 hB10 hb12 hcn2
      by_cases hab : oa = ob
      · subst hab
        have HN := Lib.hid hoN11
        have HR := Lib.hid hoR11
        have HM := Lib.hid hoM11
        have HB := Lib.hid hB11
        clear HA1 HA2 hoN11 hoR11 hoM11 hB11
        go_wp2_with fail
        refine hhas2.mono ?_
        rintro e w12 ⟨rfl, hw12⟩
        replace hw12 := hw12.symm
        subst hw12
        clear hhas2
        go_wp2
        go_roundw
        case rel => exact ⟨k + 1, by go_num, by omega, HN.out, HR.out, HM.out, HB.out⟩
        case measure => simp [intOf]; omega
      · have hob : ob = 14 := by
          rcases HA2.out with h | h
          · exact h
          · exact absurd h.symm hab
        subst hob
        have g1 : (oa == 14) = false := by simp [hab]
        have g2 : (oa != 14) = true := by simp [hab]
        have g3 : decide (oa = 14) = false := decide_eq_false hab
        have HN := Lib.hid hoN11
        have HR := Lib.hid hoR11
        have HM := Lib.hid hoM11
        have HB := Lib.hid hB11
        clear HA1 HA2 hoN11 hoR11 hoM11 hB11
        go_wp2_with fail
        refine hhas2.mono ?_
        rintro e w12 ⟨rfl, hw12⟩
        replace hw12 := hw12.symm
        subst hw12
        clear hhas2
        go_wp2
        go_roundw
        case rel => exact ⟨k + 1, by go_num, by omega, HN.out, HR.out, HM.out, HB.out⟩
        case measure => simp [intOf]; omega
theorem door_met (os : Os) (args : Array Value) : laidMetH Tryd.prog Rows.fnJoiningRow.laid ((World.doorLaid Tryd.prog 400 os).forCall (fun _ _ => 0) ⟨#[], args, []⟩).memory :=
  laidMetH_of_parts3 (fuel := 8) (laidMet_of_run' 8 (by kernel_rfl) (by kernel_rfl)) (by kernel_rfl) (by kernel_rfl)
set_option maxRecDepth 100000 in
theorem lifted (os : Os) (started : os.Started) (H : Type) (enc : TypeId × Value → H) :
    ReturnsInHanded {} Tryd.checked os 3 .any (fun w args => (Rows.fnJoiningSpec.pre enc Tryd.prog Tryd.f3 [] false w args ∧ laidMetH Tryd.prog Rows.fnJoiningRow.laid w) ∧ sizedMet enc Tryd.prog Tryd.f3 (OpenSpec.ofChange Rows.fnJoiningSpec) false w args)
      (Rows.fnJoiningSpec.post enc Tryd.prog Tryd.f3 false true false false) := by
  refine returnsInHanded_of_change_and (C := Tryd.checked) (X := fun w _ => laidMetH Tryd.prog Rows.fnJoiningRow.laid w) (fun _ _ _ hh h => h.of_heap hh) own started (by kernel_rfl) Tryd.func3
    (ChangeSpec.witness_shaped (enc := enc) (C := Tryd.checked) (os := os) (X := fun w _ => laidMetH Tryd.prog Rows.fnJoiningRow.laid w) false (World.doorLaid Tryd.prog 400 os) #[.slice none 0 0] 8 rfl (World.shaped_of_RefB (by kernel_rfl) (by kernel_rfl)) (by kernel_rfl) (by kernel_rfl) (by kernel_rfl) (door_met os _)) ?_
  intro W base args ds gs before hval0 hW _ _ hL _
  have hval : ∀ (j : Nat) t v, Tryd.f3.params[j]? = some t → args[j]? = some v → Value.okWide Tryd.prog W .any base t v := hval0
  have hW' := hW
  obtain ⟨p, q, hA0, hV, rfl, hfz, hnd⟩ := hW
  have hA : DataW.TrodAll enc Tryd.prog W 0 (fun _ => true) true Tryd.f3.params.toList args.toList ds p := hA0
  rw [Tryd.params3] at hA hval
  obtain ⟨v0, vs0, d0, ds0, p0, q0, hargs0, rfl, rfl, h0, r0⟩ := trodAll_cons hA
  obtain ⟨rfl, rfl, rfl⟩ := trodAll_nil r0
  obtain rfl : args = #[v0] := by cases args; simp_all
  obtain ⟨rfl, rfl⟩ := trodVars_none hV
  obtain ⟨a0, len0, cap0, rfl⟩ := okWide_slice Tryd.underlying22 (hval 0 22 v0 rfl rfl)
  have k0 := h0
  have lt0 : ∀ x ∈ p0, x.block < W.heap.size := by obtain ⟨m, hm⟩ := k0; exact DataW.trod_lt m _ _ _ hm
  obtain ⟨zs0, hr0, hs0⟩ : ∃ zs : List Int, Rd W (.slice a0 len0 cap0) (zs.map (Value.int .u8)) ∧ ((∀ n ∈ zs, (Lit.int .u8 n).wf = true) ∧ zs.length ≤ 9223372036854775807) := by
    obtain ⟨fuel, hf⟩ := h0
    rcases open_ints Tryd.underlying22 Tryd.underlying5 (by kernel_rfl) hf with ⟨hcs, _⟩ | ⟨x, l, c, zs, hcs, _, hl, hm, hz, _, hcell, hwz⟩
    · simp [Value.cells] at hcs
      obtain ⟨rfl, rfl, rfl⟩ := hcs
      exact ⟨[], ⟨none, 0, rfl, Nat.le_refl _, fun h => absurd rfl h⟩, (fun x hx => absurd hx List.not_mem_nil), Nat.zero_le _⟩
    · simp [Value.cells] at hcs
      obtain ⟨rfl, rfl, rfl⟩ := hcs
      exact arg_ints .u8 hl hm (by simpa using hz) hcell hwz
  clear hA0 hval0
  refine (walk _ zs0 W hr0 (wf_bytes hs0.1) hs0.2).mono fun e W' ⟨he, bel⟩ => ?_
  subst he
  exact ⟨_, rfl, _, _, _, [], _, [], hW', trodAll_mk1 (shut_bool Tryd.underlying4 _), (trodAll_cons_mk (Below.trod laidOut (by kernel_rfl) (of_decide_eq_true (by kernel_rfl)) k0 bel lt0) trodAll_mk0), rfl, bel.frame _, fun h => by cases h⟩

theorem over : Rows.fnJoiningRow.holds Tryd.pinned (OpenSpec.ofChange Rows.fnJoiningSpec) :=
  OpenClaim.holds_of_wide 3 Tryd.f3 rfl rfl rfl rfl rfl rfl rfl ⟨rfl, rfl, rfl, rfl, rfl⟩ rfl rfl rfl rfl rfl (by kernel_rfl) Tryd.func3 (by kernel_rfl)
    (of_decide_eq_true (by kernel_rfl)) (by unfold Func.isWrapper; first | (rw [if_pos (by decide +kernel)]; kernel_rfl) | (rw [if_neg (by decide +kernel)]; exact ⟨rfl, rfl⟩))
    (fun os started H enc _ => lifted os started H enc)

theorem proved : Rows.FnJoiningCardSaid :=
  Claim7.holds_tied_plain_at .later [] Rows.fnJoiningCard.laidKinds true Rows.fnJoiningCard.stood.harness Rows.fnJoiningCard.stood.looks
    over (fun _ h => by cases h) (by kernel_rfl) (fun _ h => by cases h) fnJoining_row_tie rfl ⟨rfl, rfl⟩ (by kernel_rfl) rfl
    (fun f fn hf hfn => by
      obtain rfl : f = 3 := Option.some.inj ((show Tryd.prog.funcNamed Rows.fnJoiningRow.func = some 3 by kernel_rfl).symm.trans hf) |>.symm
      obtain rfl : fn = Tryd.f3 := (Option.some.inj (Tryd.func3.symm.trans hfn)).symm
      exact ⟨by kernel_rfl, fun j t ht => by
        rw [Tryd.params3] at ht
        have hm : t ∈ [22] := by simpa using Array.mem_of_getElem? ht
        have hall : ([22].all fun u => !Tryd.prog.wantsStandIn u) = true := by kernel_rfl
        exact (show Tryd.prog.wantsStandIn t = false by simpa using List.all_eq_true.1 hall t hm)⟩)
    (by kernel_rfl)
end Go.Proofs.YtjjaephhnlhnkafDoor.fnJoining
