/- FnWinning: with one node more a key is won as it was, or by that one. For every code, without a condition. -/
import Derived.Test.YtidmaaglfckcbafDoorDrawsK
import Derived.Test.YtidmaaglfckcbafDoorScoI
import Derived.Test.YtidmaaglfckcbafDoorHasL
import Derived.Test.YtidmaaglfckcbafDoorArgs
import Derived.Test.YtidmaaglfckcbafDoorCards
import Derived.Test.YtidmaaglfckcbafDoorTie
import Derived.SevenTiedAt
import Derived.LaidMore
import Derived.Stop.Joined
namespace Go.Proofs.YtidmaaglfckcbafDoor.fnWinning
open Go.ChangeShapes Go.WideShapes Go.ChangeAt Go.RowKit
set_option linter.unusedVariables false
set_option maxHeartbeats 8000000 in
set_option maxRecDepth 100000 in
theorem walk (va : Value) (bs : List Int) (w : World) (hL : laidMetH Tryd.prog Rows.fnWinningRow.laid w) (ha : Rd w va (cellsByteS bs)) (hz : Bytes bs) (hn : bs.length ≤ 9223372036854775807) :
    Calls Tryd.prog 4 #[va] w fun e w' => e = .returned (.bool true) ∧ Below w.heap.size w w' := by
  have HTAB0 : TabP w := tab_of hL
  have HTAB := Lib.hid (fun (W : World) (hB : Below w.heap.size w W) => tab_below HTAB0 hB)
  clear HTAB0 hL
  have hla : (cellsByteS bs).length = bs.length := by simp
  obtain ⟨ao, cap, hval, hcap, _⟩ := id ha
  rw [hla] at hval hcap
  by_cases hbig : bs.length ≤ 4096
  rotate_left
  focus
    subst hval
    have hbI : (4096 : Int) < (bs.length : Int) := by omega
    have hbg : Calls Tryd.prog 5 #[.slice ao bs.length cap] w fun e w' => e = .returned (.bool true) ∧ w' = w := by
      clear ha hz HTAB
      go_enter Tryd.func5, Tryd.ntmps5
      go_wp2
      go_ret
      exact ⟨by first | rfl | (congr 1; simp; omega), rfl⟩
    clear ha hz HTAB
    go_enter Tryd.func4, Tryd.ntmps4
    go_wp2_with fail
    refine hbg.mono ?_
    rintro e w1 ⟨rfl, rfl⟩
    go_wp2
    go_ret
    exact ⟨rfl, Below.refl _ _⟩
  have hbI : ¬ (4096 : Int) < (bs.length : Int) := by omega
  have hbg : Calls Tryd.prog 5 #[.slice ao bs.length cap] w fun e w' => e = .returned (.bool false) ∧ w' = w := by
    clear ha hz HTAB
    go_enter Tryd.func5, Tryd.ntmps5
    go_wp2
    go_ret
    exact ⟨by first | rfl | (congr 1; simp; omega), rfl⟩
  subst hval
  have hdr := drawWinner_any (.slice ao bs.length cap) bs w ha hbig hz
  clear hz ha hbI hn
  go_enter Tryd.func4, Tryd.ntmps4
  go_wp2_with fail
  refine hbg.mono ?_
  rintro e w0 ⟨rfl, hw0⟩
  replace hw0 := hw0.symm
  subst hw0
  clear hbg
  go_wp2_with fail
  refine hdr.mono ?_
  rintro e w1 ⟨vn, xs, key, rfl, hxl, hxr, hk0, hk1, hoN1, hB1⟩
  clear hdr
  have hs1 := hB1.size
  have HWI : Hid (∀ (W : World) (v : Value) (ys : List Int), Below w.heap.size w W → Rd W v (cellsInt64S ys) → ys.length ≤ 1048576 → (∀ x ∈ ys, x ≤ 9223372036854775807) → Calls Tryd.prog 14 #[v, .int .i64 key] W fun e w' => e = .returned (.int .i64 (winT ys key)) ∧ Below W.heap.size W w') := fun W v ys hB h hl hi => implWinner_any v ys key W (HTAB.out W hB) h hl (by omega) hi
  have HSC : Hid (∀ (W : World) (n : Int), Below w.heap.size w W → n ≤ 9223372036854775807 → Calls Tryd.prog 16 #[.int .i64 n, .int .i64 key] W fun e w' => e = .returned (.int .i64 (scoT n key)) ∧ Below W.heap.size W w') := fun W n hB hn => implScore_any n key W (HTAB.out W hB) hn (by omega)
  have hsp := fun (W : World) (v : Value) (h : Rd W v (cellsInt64S xs)) => specWinnerT_any v xs key W h (by omega) (by omega)
  have hwi := HWI.out w1 vn xs hB1 (rd_owns hoN1) (by omega) (fun x hx => by have := hxr x hx; omega)
  obtain ⟨a, hA⟩ : ∃ a, a = winT xs key := ⟨_, rfl⟩
  have HA := Lib.hid hA
  have hNK : NodesK xs key ∨ a = -1 := by
    by_cases h : NodesK xs key
    · exact Or.inl h
    · exact Or.inr (by rw [hA]; exact winT_no h)
  have HNK := Lib.hid hNK
  have hage : a ≤ 18 ∧ -1 ≤ a := by
    rcases hNK with h | h
    · have h9 := hxr _ (winT_first h).1
      rw [hA]; omega
    · omega
  rw [← hA] at hwi hsp
  have hne : (a != a) = false := by simp
  obtain ⟨an, cn, hvn⟩ := owns_slice hoN1
  subst hvn
  clear hA hNK
  go_wp2_with fail
  refine hwi.mono ?_
  rintro e w2 ⟨rfl, hb2⟩
  have hoN2 := owns_below hoN1 hb2
  have hB2 := hB1.trans (hb2.mono hs1)
  have hs2 := hB2.size
  have hsp2 := hsp w2 _ (rd_owns hoN2)
  clear hwi hoN1 hB1 hb2 hsp
  go_wp2_with fail
  refine hsp2.mono ?_
  rintro e w3 ⟨rfl, hb3⟩
  have hoN3 := owns_below hoN2 hb3
  have hB3 := hB2.trans (hb3.mono hs2)
  have hs3 := hB3.size
  clear hsp2 hoN2 hB2 hb3
  by_cases ha0 : a < 0
  focus
    have HB := Lib.hid hB3
    clear HNK HA hoN3 hB3 HWI HSC HTAB
    go_wp2
    go_ret
    exact ⟨rfl, HB.out⟩
  have hnk : NodesK xs key := HNK.out.resolve_right (by omega)
  have hhas := hasL_any _ xs 99 w3 (rd_owns hoN3) (by omega)
  have h99 : 99 ∉ xs := fun h => by have := hxr _ h; omega
  have hcn : xs.contains 99 = false := by
    cases e : xs.contains 99 with
    | false => rfl
    | true => exact absurd (by simpa using e) h99
  rw [hcn] at hhas
  have h16 : ((xs.length : Int) == 16) = false := by simp; omega
  have hnk2 : NodesK (xs ++ [99]) key := ⟨⟨⟨by simp, by simp; omega⟩, (fun x hx => by
    rcases List.mem_append.1 hx with h | h
    · exact hnk.1.2.1 x h
    · rw [List.mem_singleton.1 h]; omega), List.nodup_append.2 ⟨hnk.1.2.2, by simp, fun y hy z hz e => by rw [List.mem_singleton.1 hz] at e; rw [e] at hy; exact h99 hy⟩⟩, hnk.2⟩
  have hmore := win_more hnk hnk2
  rw [← HA.out] at hmore
  have hxin : ∀ x ∈ xs ++ [99], x ≤ 9223372036854775807 := fun x hx => by
    rcases List.mem_append.1 hx with h | h
    · have := hxr x h; omega
    · rw [List.mem_singleton.1 h]; decide
  have hwi2 := Lib.hid (fun (W : World) (v : Value) (hB : Below w.heap.size w W) (h : Rd W v (cellsInt64S (xs ++ [99]))) => HWI.out W v (xs ++ [99]) hB h (by simp; omega) hxin)
  generalize winT (xs ++ [99]) key = b at hmore hwi2
  have HMO := Lib.hid hmore
  clear hcn h99 hnk hnk2 HNK HA HWI hxr hmore hxin
  go_wp2_with fail
  refine hhas.mono ?_
  rintro e w4 ⟨rfl, hw4⟩
  replace hw4 := hw4.symm
  subst hw4
  clear hhas
  have hlit := (World.ownsRow_lit (base := w3.heap.size) (e := 2) (size := 1) w3 #[] 0 (Nat.le_refl _) (Nat.zero_le _) rfl : (w3.alloc (.cells #[] 2)).ownsRow w3.heap.size 2 1 (.slice (some ⟨w3.heap.size, 0, none⟩) 0 0) ([] : List Int).length (cellsInt64S []))
  have hal := (Below.refl w3.heap.size w3).alloc (Nat.le_refl _) (.cells #[] 2)
  have hsa : w3.heap.size ≤ (w3.alloc (.cells #[] 2)).heap.size := by rw [World.size_alloc]; omega
  have hrdN := rd_below (rd_owns hoN3) hal
  have hl1 : ([] : List Int).length + xs.length ≤ 16777216 := by rw [List.length_nil]; omega
  go_wp2_with (at_builtin; refine own_step rfl _ _ rfl w3.heap.size (.slice (some ⟨w3.heap.size, 0, none⟩) 0 0) (.slice an xs.length cn) [] xs rfl rfl hlit hrdN hl1 hsa ?_)
  intro v6 w6 ho6 hg6 hi6
  have hb6 : Below w3.heap.size w3 w6 := hal.grown hg6 hsa (fun q hq => by cases hq; exact Nat.le_refl _)
  have hs6 := hb6.size
  have hra := (World.ownsRow_lit (base := w6.heap.size) (e := 2) (size := 1) w6 #[.int .i64 99] 1 (Nat.le_refl _) (by unfold maxLen; omega) rfl : (w6.alloc (.cells #[.int .i64 99] 2)).ownsRow w6.heap.size 2 1 (.slice (some ⟨w6.heap.size, 0, none⟩) 1 1) 1 (cellsInt64S [99]))
  have hoa := ho6.alloc (.cells #[.int .i64 99] 2)
  have hba := hb6.alloc hs6 (.cells #[.int .i64 99] 2)
  have hsA : w3.heap.size ≤ (w6.alloc (.cells #[.int .i64 99] 2)).heap.size := by rw [World.size_alloc]; omega
  have hrq := rd_owns hra
  have hl2 : xs.length + [(99 : Int)].length ≤ 16777216 := by rw [List.length_singleton]; omega
  clear hlit hal hsa hrdN hg6 hi6 ho6 hra hb6
  go_wp2_with (at_builtin; refine own_step rfl _ _ rfl w3.heap.size v6 (.slice (some ⟨w6.heap.size, 0, none⟩) 1 1) xs [99] rfl rfl hoa hrq hl2 hsA ?_)
  intro v7 w7 ho7 hg7 hi7
  have hb7 : Below w3.heap.size w3 w7 := hba.grown hg7 hsA (fun q hq => (hoa.lt q hq).1)
  have hB7 := hB3.trans (hb7.mono hs3)
  have hs7 := hB7.size
  have ho7' : w7.ownsRow w3.heap.size 2 1 v7 (xs ++ [99]).length (cellsInt64S (xs ++ [99])) := by simpa using ho7
  have hwi3 := hwi2.out w7 v7 hB7 (rd_owns ho7')
  clear hoa hba hsA hrq hg7 hi7 hb7 hoN3 hB3 ho7 ho7' hs6 hwi2
  go_wp2_with fail
  refine hwi3.mono ?_
  rintro e w8 ⟨rfl, hb8⟩
  have hB8 := hB7.trans (hb8.mono hs7)
  have hs8 := hB8.size
  clear hwi3 hB7 hb8
  by_cases hab : b = a
  · subst hab
    have g1 : (b == b) = true := by simp
    have HB := Lib.hid hB8
    clear HMO HSC HTAB hB8
    go_wp2
    go_ret
    exact ⟨rfl, HB.out⟩
  · rcases HMO.out with h | ⟨h, hge⟩
    · exact absurd h hab
    · subst h
      have g0 : ¬ (99 : Int) = a := hab
      have g1 : ((99 : Int) == a) = false := by simp [hab]
      have hc1 := HSC.out w8 99 hB8 (by omega)
      have hc2 := Lib.hid (fun W hB => HSC.out W a hB (by omega))
      have HGE := Lib.hid hge
      clear HMO HSC HTAB hab hge
      generalize scoT 99 key = s9 at hc1 HGE
      generalize scoT a key = sa at hc2 HGE
      have hge := HGE.out
      go_wp2_with fail
      refine hc1.mono ?_
      rintro e w9 ⟨rfl, hb9⟩
      have hB9 := hB8.trans (hb9.mono hs8)
      have hc3 := hc2.out w9 hB9
      clear hc1 hb9 hB8 hc2
      go_wp2_with fail
      refine hc3.mono ?_
      rintro e w10 ⟨rfl, hb10⟩
      have HB := Lib.hid (hB9.trans (hb10.mono hB9.size))
      clear hc3 hb10 hB9
      go_wp2
      go_ret
      exact ⟨by first | rfl | simp, HB.out⟩
theorem door_met (os : Os) (args : Array Value) : laidMetH Tryd.prog Rows.fnWinningRow.laid ((World.doorLaid Tryd.prog 400 os).forCall (fun _ _ => 0) ⟨#[], args, []⟩).memory :=
  laidMetH_of_parts3 (fuel := 8) (laidMet_of_run' 8 (by kernel_rfl) (by kernel_rfl)) (by kernel_rfl) (by kernel_rfl)
set_option maxRecDepth 100000 in
theorem lifted (os : Os) (started : os.Started) (H : Type) (enc : TypeId × Value → H) :
    ReturnsInHanded {} Tryd.checked os 4 .any (fun w args => (Rows.fnWinningSpec.pre enc Tryd.prog Tryd.f4 [] false w args ∧ laidMetH Tryd.prog Rows.fnWinningRow.laid w) ∧ sizedMet enc Tryd.prog Tryd.f4 (OpenSpec.ofChange Rows.fnWinningSpec) false w args)
      (Rows.fnWinningSpec.post enc Tryd.prog Tryd.f4 false true false false) := by
  refine returnsInHanded_of_change_and (C := Tryd.checked) (X := fun w _ => laidMetH Tryd.prog Rows.fnWinningRow.laid w) (fun _ _ _ hh h => h.of_heap hh) own started (by kernel_rfl) Tryd.func4
    (ChangeSpec.witness_shaped (enc := enc) (C := Tryd.checked) (os := os) (X := fun w _ => laidMetH Tryd.prog Rows.fnWinningRow.laid w) false (World.doorLaid Tryd.prog 400 os) #[.slice none 0 0] 8 rfl (World.shaped_of_RefB (by kernel_rfl) (by kernel_rfl)) (by kernel_rfl) (by kernel_rfl) (by kernel_rfl) (door_met os _)) ?_
  intro W base args ds gs before hval0 hW _ _ hL _
  have hval : ∀ (j : Nat) t v, Tryd.f4.params[j]? = some t → args[j]? = some v → Value.okWide Tryd.prog W .any base t v := hval0
  have hW' := hW
  obtain ⟨p, q, hA0, hV, rfl, hfz, hnd⟩ := hW
  have hA : DataW.TrodAll enc Tryd.prog W 0 (fun _ => true) true Tryd.f4.params.toList args.toList ds p := hA0
  rw [Tryd.params4] at hA hval
  obtain ⟨v0, vs0, d0, ds0, p0, q0, hargs0, rfl, rfl, h0, r0⟩ := trodAll_cons hA
  obtain ⟨rfl, rfl, rfl⟩ := trodAll_nil r0
  obtain rfl : args = #[v0] := by cases args; simp_all
  obtain ⟨rfl, rfl⟩ := trodVars_none hV
  obtain ⟨a0, len0, cap0, rfl⟩ := okWide_slice Tryd.underlying22 (hval 0 22 v0 rfl rfl)
  have k0 := h0
  have lt0 : ∀ x ∈ p0, x.block < W.heap.size := by obtain ⟨m, hm⟩ := k0; exact DataW.trod_lt m _ _ _ hm
  obtain ⟨zs0, hr0, hs0⟩ : ∃ zs : List Int, Rd W (.slice a0 len0 cap0) (zs.map (Value.int .u8)) ∧ ((∀ n ∈ zs, (Lit.int .u8 n).wf = true) ∧ zs.length ≤ 9223372036854775807) := by
    obtain ⟨fuel, hf⟩ := h0
    rcases open_ints Tryd.underlying22 Tryd.underlying5 (by kernel_rfl) hf with ⟨hcs, _⟩ | ⟨x, l, c, zs, hcs, _, hl, hm, hz, _, hcell, hwz⟩
    · simp [Value.cells] at hcs
      obtain ⟨rfl, rfl, rfl⟩ := hcs
      exact ⟨[], ⟨none, 0, rfl, Nat.le_refl _, fun h => absurd rfl h⟩, (fun x hx => absurd hx List.not_mem_nil), Nat.zero_le _⟩
    · simp [Value.cells] at hcs
      obtain ⟨rfl, rfl, rfl⟩ := hcs
      exact arg_ints .u8 hl hm (by simpa using hz) hcell hwz
  clear hA0 hval0
  refine (walk _ zs0 W hL hr0 (wf_bytes hs0.1) hs0.2).mono fun e W' ⟨he, bel⟩ => ?_
  subst he
  exact ⟨_, rfl, _, _, _, [], _, [], hW', trodAll_mk1 (shut_bool Tryd.underlying4 _), (trodAll_cons_mk (Below.trod laidOut (by kernel_rfl) (of_decide_eq_true (by kernel_rfl)) k0 bel lt0) trodAll_mk0), rfl, bel.frame _, fun h => by cases h⟩

theorem over : Rows.fnWinningRow.holds Tryd.pinned (OpenSpec.ofChange Rows.fnWinningSpec) :=
  OpenClaim.holds_of_wide 4 Tryd.f4 rfl rfl rfl rfl rfl rfl rfl ⟨rfl, rfl, rfl, rfl, rfl⟩ rfl rfl rfl rfl rfl (by kernel_rfl) Tryd.func4 (by kernel_rfl)
    (of_decide_eq_true (by kernel_rfl)) (by unfold Func.isWrapper; first | (rw [if_pos (by decide +kernel)]; kernel_rfl) | (rw [if_neg (by decide +kernel)]; exact ⟨rfl, rfl⟩))
    (fun os started H enc _ => lifted os started H enc)

theorem proved : Rows.FnWinningCardSaid :=
  Claim7.holds_tied_plain_at .later [] Rows.fnWinningCard.laidKinds true Rows.fnWinningCard.stood.harness Rows.fnWinningCard.stood.looks
    over (fun _ h => by cases h) (by kernel_rfl) (fun _ h => by cases h) fnWinning_row_tie rfl ⟨rfl, rfl⟩ (by kernel_rfl) rfl
    (fun f fn hf hfn => by
      obtain rfl : f = 4 := Option.some.inj ((show Tryd.prog.funcNamed Rows.fnWinningRow.func = some 4 by kernel_rfl).symm.trans hf) |>.symm
      obtain rfl : fn = Tryd.f4 := (Option.some.inj (Tryd.func4.symm.trans hfn)).symm
      exact ⟨by kernel_rfl, fun j t ht => by
        rw [Tryd.params4] at ht
        have hm : t ∈ [22] := by simpa using Array.mem_of_getElem? ht
        have hall : ([22].all fun u => !Tryd.prog.wantsStandIn u) = true := by kernel_rfl
        exact (show Tryd.prog.wantsStandIn t = false by simpa using List.all_eq_true.1 hall t hm)⟩)
    (by kernel_rfl)
end Go.Proofs.YtidmaaglfckcbafDoor.fnWinning
