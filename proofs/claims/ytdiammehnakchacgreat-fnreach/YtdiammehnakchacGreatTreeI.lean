/- CONTRACTS: the program's allDigests, Leaf, Branch, nodeOf, Children. -/
import Derived.Test.YtdiammehnakchacGreatTreeS
import Derived.Test.YtdiammehnakchacGreatOwnR
import Derived.Test.YtdiammehnakchacGreatReadNums2
namespace Go.Proofs.YtdiammehnakchacGreat
open Go.RowKit
set_option linter.unusedVariables false
set_option maxHeartbeats 1000000 in
theorem allDigests_any (va : Value) (ds : List Int) (w : World) (ha : Rd w va (cellsInt64S ds)) (hl : ds.length ≤ 140737488355328) :
    Calls Tryz.prog 58 #[va] w fun e w' => e = .returned (.bool (decide (∀ d ∈ ds, okD d))) ∧ w' = w := by
  have hla : (cellsInt64S ds).length = ds.length := by simp
  have HNO : Hid (∀ i, i < ds.length → ¬ okD (ds.getD i 0) → decide (∀ d ∈ ds, okD d) = false) := fun i hi h => decide_eq_false fun k => h (k _ (by
    have e : ds.getD i 0 = ds[i] := by simp [List.getD, hi]
    rw [e]
    exact List.getElem_mem hi))
  have HYES : Hid ((∀ i, i < ds.length → okD (ds.getD i 0)) → decide (∀ d ∈ ds, okD d) = true) := fun h => decide_eq_true fun d hd => by
    obtain ⟨i, hi, rfl⟩ := List.getElem_of_mem hd
    have := h i hi
    simpa [List.getD, hi] using this
  generalize decide (∀ d ∈ ds, okD d) = R at HNO HYES ⊢
  rcases rd_cases ha with ⟨h0, ao, cap, rfl⟩ | ⟨hp, b, off, cap, rfl, _, hlt, hc⟩
  · have hx : ds = [] := by simpa using h0
    subst hx
    have hR : R = true := HYES.out (fun i hi => by simp at hi)
    subst hR
    clear HNO HYES hla ha h0
    go_enter Tryz.func58, Tryz.ntmps58
    go_wp2
    refine wp_loop_rounds 1 ?_
    rw [rounds_succ]
    go_wp2
    go_ret
    exact ⟨rfl, rfl⟩
  rw [hla] at hc hp
  have HA : Hid (∀ j, j < ds.length → w.cell? ⟨b, off + j, none⟩ = some (.int .i64 (ds.getD j 0))) := fun j hj => (hc j hj).trans (ints_get _ ds j hj)
  rw [hla]
  obtain ⟨n, hn⟩ : ∃ n, n = ds.length := ⟨_, rfl⟩
  rw [← hn] at hl HNO HYES HA hp ⊢
  clear hc ha hn hla
  go_enter Tryz.func58, Tryz.ntmps58
  go_wp2
  go_loop [7] (fun i => ∃ k : Nat, k ≤ n ∧ i = .int .i64 k ∧ Hid (∀ j, j < k → okD (ds.getD j 0))) (fun i => n - (intOf i).toNat)
  case atStart => exact ⟨0, Nat.zero_le _, rfl, fun j h => by omega⟩
  case round =>
    obtain ⟨k, hk, rfl, hok⟩ := hrel
    by_cases hltk : k < n
    focus
      have d0 := HA.out k hltk
      have hno := Lib.hid (HNO.out k hltk)
      have hnew : Hid (okD (ds.getD k 0) → ∀ j, j < k + 1 → okD (ds.getD j 0)) := fun h j hj => by
        rcases Nat.lt_or_ge j k with g | g
        · exact hok.out j g
        · obtain rfl : j = k := by omega
          exact h
      obtain ⟨x, hx⟩ : ∃ x, x = ds.getD k 0 := ⟨_, rfl⟩
      rw [← hx] at d0 hno hnew
      clear hx hok
      by_cases h1 : x < 1
      · have hR := hno.out (fun h => by have := h.1; omega)
        subst hR
        clear hno hnew
        go_wp2
        go_ret
        exact ⟨rfl, rfl⟩
      · by_cases h2 : 2147483647 ≤ x
        · have hR := hno.out (fun h => by have := h.2; omega)
          subst hR
          clear hno hnew
          go_wp2
          go_ret
          exact ⟨rfl, rfl⟩
        · have HNW := Lib.hid (hnew.out ⟨by omega, by omega⟩)
          clear hno hnew
          go_wp2
          go_round
          case rel => exact ⟨k + 1, by omega, by go_num, HNW⟩
          case measure => simp [intOf]; omega
    have hR := HYES.out (fun i hi => hok.out i (by omega))
    subst hR
    have hltI : ¬ (k : Int) < (n : Int) := by omega
    go_wp2
    go_ret
    exact ⟨rfl, rfl⟩
theorem leaf_cells (c : ByteArray) : cellsByteS [0] ++ Lib.strCells c = cellsByteS (leafL (byts c)) := by rw [strCells_bld]; rfl
theorem br_cells {ds : List Int} (h : okBr ds) : cellsByteS [1] ++ Lib.strCells (asB (numsB ds)) = cellsByteS (brL ds) := by
  rw [strCells_bld, brL_ok h, asB_byts _ (fun x hx => br_bytes ds x (by rw [brL_ok h]; simp [hx]))]
  rfl
theorem leafText_any (c : ByteArray) (w : World) (hc : c.size ≤ 1048576) :
    Calls Tryz.prog 41 #[.string c] w fun e w' => e = .returned (.string (leafT c)) ∧ Below w.heap.size w w' := by
  obtain ⟨i0, hi, hz0, hz1, hz2⟩ := info_parts Tryz.infoB
  have ho1 : (w.alloc (.cells #[.int .u8 0] 5)).ownsRow w.heap.size 5 1 (.slice (some ⟨w.heap.size, 0, none⟩) 1 1) 1 (cellsByteS [0]) := World.ownsRow_lit (base := w.heap.size) (e := 5) (size := 1) w #[.int .u8 0] 1 (Nat.le_refl _) (by unfold maxLen; omega) rfl
  have hb1 : Below w.heap.size w (w.alloc (.cells #[.int .u8 0] 5)) := (Below.refl _ _).alloc (Nat.le_refl _) _
  go_enter Tryz.func41, Tryz.ntmps41
  go_wp2_with (at_builtin; refine Lib.wpList_append_own_string _ rfl _ _ 22 56 rfl w.heap.size 5 i0 Tryz.underlying22 Tryz.underlying56 hi hz0 hz1 hz2 _ _ _ rfl ho1 c rfl (by unfold maxLen; omega) (by omega) (by simp) ?_)
  intro v2 w2 ho2 hg2 _
  have hb2 := hb1.grown hg2 hb1.size (fun k hk => (ho1.lt k hk).1)
  have ho3 : w2.ownsRow w.heap.size 5 1 v2 (leafL (byts c)).length (cellsByteS (leafL (byts c))) := by
    rw [← leaf_cells]
    have e : (leafL (byts c)).length = 1 + c.size := by unfold leafL; rw [List.length_cons, byts_len]; omega
    rw [e]; exact ho2
  have hlen : (leafL (byts c)).length ≤ 4194304 := by unfold leafL; rw [List.length_cons, byts_len]; omega
  have hcall := ownRow_any w.heap.size v2 (leafL (byts c)) w2 (leaf_bytes c) ho3 hlen
  have HR : Hid (asB (leafL (byts c)) = leafT c) := rfl
  obtain ⟨t, ht⟩ : ∃ t, t = asB (leafL (byts c)) := ⟨_, rfl⟩
  rw [← ht] at hcall HR
  clear ht ho2 hg2 ho1 hb1 ho3 hlen
  go_wp2_with fail
  refine hcall.mono ?_
  rintro e w3 ⟨rfl, hb3⟩
  have hB := hb2.trans (hb3.mono hb2.size)
  clear hcall hb2 hb3
  go_wp2
  go_ret
  refine ⟨?_, hB⟩
  show Ending.returned (Value.string t) = _
  rw [HR.out]
theorem implLeaf_any (c : ByteArray) (w : World) (hc : c.size ≤ 1048576) :
    Calls Tryz.prog 16 #[.string c] w fun e w' => e = .returned (.string (leafT c)) ∧ Below w.heap.size w w' := by
  have hcall := leafText_any c w hc
  go_enter Tryz.func16, Tryz.ntmps16
  go_wp2_with fail
  refine hcall.mono ?_
  rintro e w3 ⟨rfl, hb3⟩
  go_wp2
  go_ret
  exact ⟨rfl, hb3⟩
theorem brWrong_any (va : Value) (ds : List Int) (w : World) (ha : Rd w va (cellsInt64S ds)) (hl : ds.length ≤ 140737488355328) :
    Calls Tryz.prog 35 #[va] w fun e w' => e = .returned (.bool (!decide (okBr ds))) ∧ w' = w := by
  have hla : (cellsInt64S ds).length = ds.length := by simp
  have hcall := allDigests_any va ds w ha hl
  obtain ⟨ao, cap, rfl, _, _⟩ := ha
  rw [hla] at hcall ⊢
  by_cases h1 : (ds.length : Int) < 1
  · have e : (!decide (okBr ds)) = true := by rw [decide_eq_false (fun h => by have := h.1; omega)]; rfl
    rw [e]
    clear e hcall hla hl
    generalize ds.length = n at h1
    go_enter Tryz.func35, Tryz.ntmps35
    go_wp2
    go_ret
    exact ⟨rfl, rfl⟩
  by_cases h4 : (4 : Int) < (ds.length : Int)
  · have e : (!decide (okBr ds)) = true := by rw [decide_eq_false (fun h => by have := h.2.1; omega)]; rfl
    rw [e]
    clear e hcall hla hl
    generalize ds.length = n at h1 h4
    go_enter Tryz.func35, Tryz.ntmps35
    go_wp2
    go_ret
    exact ⟨rfl, rfl⟩
  have e : (!decide (okBr ds)) = !decide (∀ d ∈ ds, okD d) := by
    by_cases h : ∀ d ∈ ds, okD d
    · rw [decide_eq_true h, decide_eq_true (show okBr ds from ⟨by omega, by omega, h⟩)]
    · rw [decide_eq_false h, decide_eq_false (fun k : okBr ds => h k.2.2)]
  rw [e]
  clear e
  generalize decide (∀ d ∈ ds, okD d) = R at hcall ⊢
  generalize ds.length = n at h1 h4 hcall ⊢
  go_enter Tryz.func35, Tryz.ntmps35
  go_wp2_with fail
  refine hcall.mono ?_
  rintro e w3 ⟨rfl, rfl⟩
  cases R with
  | false =>
    go_wp2
    go_ret
    exact ⟨rfl, rfl⟩
  | true =>
    go_wp2
    go_ret
    exact ⟨rfl, rfl⟩
theorem brText_any (va : Value) (ds : List Int) (w : World) (ha : Rd w va (cellsInt64S ds)) (hk : okBr ds) :
    Calls Tryz.prog 36 #[va] w fun e w' => e = .returned (.string (brT ds)) ∧ Below w.heap.size w w' := by
  obtain ⟨i0, hi, hz0, hz1, hz2⟩ := info_parts Tryz.infoB
  have hds := hk.2.1
  have ho1 : (w.alloc (.cells #[.int .u8 1] 5)).ownsRow w.heap.size 5 1 (.slice (some ⟨w.heap.size, 0, none⟩) 1 1) 1 (cellsByteS [1]) := World.ownsRow_lit (base := w.heap.size) (e := 5) (size := 1) w #[.int .u8 1] 1 (Nat.le_refl _) (by unfold maxLen; omega) rfl
  have hb1 : Below w.heap.size w (w.alloc (.cells #[.int .u8 1] 5)) := (Below.refl _ _).alloc (Nat.le_refl _) _
  have hnum := implNumbers_any va ds (w.alloc (.cells #[.int .u8 1] 5)) (rd_below ha hb1) (by omega)
  have hsz := numsB_30 hds
  have HC := Lib.hid (br_cells hk)
  have HL : Hid ((brL ds).length = 1 + (asB (numsB ds)).size) := by show _ = _; rw [brL_ok hk, List.length_cons, asB_size]; omega
  have HR : Hid (asB (brL ds) = brT ds) := rfl
  have HBY := Lib.hid (br_bytes ds)
  obtain ⟨t, ht⟩ : ∃ t, t = asB (numsB ds) := ⟨_, rfl⟩
  rw [← ht] at hnum hsz HC HL
  generalize brT ds = R at HR ⊢
  generalize brL ds = L at HC HL HR HBY
  obtain ⟨ao, cap, rfl⟩ : ∃ ao cap, va = .slice ao (cellsInt64S ds).length cap := by
    obtain ⟨ao, cap, h, _⟩ := ha
    exact ⟨ao, cap, h⟩
  generalize (cellsInt64S ds).length = n at hnum
  clear ht ha hk hds
  go_enter Tryz.func36, Tryz.ntmps36
  go_wp2_with fail
  refine hnum.mono ?_
  rintro e w1 ⟨rfl, hb2⟩
  have ho2 := owns_below ho1 hb2
  have hB2 := hb1.trans (hb2.mono hb1.size)
  have hs2 := hB2.size
  clear hnum ho1 hb1 hb2
  go_wp2_with (at_builtin; refine Lib.wpList_append_own_string _ rfl _ _ 22 9 rfl w.heap.size 5 i0 Tryz.underlying22 Tryz.underlying9 hi hz0 hz1 hz2 _ _ _ rfl ho2 t rfl (by unfold maxLen; omega) (by omega) (by omega) ?_)
  intro v2 w2 ho3 hg3 _
  have hB3 := hB2.grown hg3 hs2 (fun k hk => (ho2.lt k hk).1)
  have ho4 : w2.ownsRow w.heap.size 5 1 v2 L.length (cellsByteS L) := by rw [← HC.out, HL.out]; exact ho3
  have hcall := ownRow_any w.heap.size v2 L w2 HBY.out ho4 (by have := HL.out; omega)
  rw [HR.out] at hcall
  clear ho2 ho3 ho4 hg3 HC HL HBY HR hB2
  go_wp2_with fail
  refine hcall.mono ?_
  rintro e w3 ⟨rfl, hb3⟩
  have hB := hB3.trans (hb3.mono hB3.size)
  clear hcall hb3 hB3
  go_wp2
  go_ret
  exact ⟨rfl, hB⟩
set_option maxHeartbeats 1000000 in
theorem implBranch_any (va : Value) (ds : List Int) (w : World) (ha : Rd w va (cellsInt64S ds)) (hl : ds.length ≤ 140737488355328) :
    Calls Tryz.prog 10 #[va] w fun e w' => e = .returned (.string (brT ds)) ∧ Below w.heap.size w w' := by
  have hwr := brWrong_any va ds w ha hl
  by_cases hk : okBr ds
  · have htx := brText_any va ds w ha hk
    rw [decide_eq_true hk] at hwr
    obtain ⟨ao, cap, rfl⟩ : ∃ ao cap, va = .slice ao (cellsInt64S ds).length cap := by
      obtain ⟨ao, cap, h, _⟩ := ha
      exact ⟨ao, cap, h⟩
    generalize (cellsInt64S ds).length = n at hwr htx
    generalize brT ds = R at htx ⊢
    clear ha hk
    go_enter Tryz.func10, Tryz.ntmps10
    go_wp2_with fail
    refine hwr.mono ?_
    rintro e w1 ⟨rfl, rfl⟩
    go_wp2_with fail
    refine htx.mono ?_
    rintro e w2 ⟨rfl, hb2⟩
    go_wp2
    go_ret
    exact ⟨rfl, hb2⟩
  · rw [decide_eq_false hk] at hwr
    rw [br_none hk]
    obtain ⟨ao, cap, rfl⟩ : ∃ ao cap, va = .slice ao (cellsInt64S ds).length cap := by
      obtain ⟨ao, cap, h, _⟩ := ha
      exact ⟨ao, cap, h⟩
    generalize (cellsInt64S ds).length = n at hwr
    clear ha hk
    go_enter Tryz.func10, Tryz.ntmps10
    go_wp2_with fail
    refine hwr.mono ?_
    rintro e w1 ⟨rfl, rfl⟩
    go_wp2
    go_ret
    exact ⟨rfl, Below.refl _ _⟩
/-- what nodeOf tells of a text -/
def NodeIs (s : ByteArray) (B : Nat) (w : World) (v : Value) : Prop :=
  (childT s = none ∧ v = .nilIface) ∨ (childT s = some [] ∧ v = .iface 56 (.string (s.extract 1 s.size))) ∨
  ∃ l u, childT s = some l ∧ okBr l ∧ v = .iface 55 u ∧ w.ownsRow B 2 1 u l.length (cellsInt64S l)
theorem child_one2 {s : ByteArray} {r : List Int} (h : byts s = 1 :: r) (hr : Bytes r) : childT s = match readNums r with
    | some l => if okBr l then some l else none
    | none => none := by
  rw [child_one h]
  cases hrd : readNums r with
  | none => rfl
  | some l =>
    simp only
    obtain ⟨_, _, _, h1⟩ := read_back hr hrd
    by_cases hk : okBr l
    · rw [if_pos hk, if_pos]
      refine bytsT_inj ?_
      rw [byts_br, brL_ok hk, h, numsB_br hk, h1]
    · rw [if_neg hk, if_neg]
      rw [br_none hk]
      intro e
      rw [← e] at h
      cases h
set_option maxHeartbeats 2000000 in
set_option maxRecDepth 100000 in
theorem nodeOf_any (s : ByteArray) (w : World) (hs : s.size ≤ 1048576) :
    Calls Tryz.prog 33 #[.string s] w fun e w' => ∃ v, e = .returned v ∧ NodeIs s w.heap.size w' v ∧ Below w.heap.size w w' := by
  by_cases h0 : s.size = 0
  · obtain rfl := empty_of h0
    have HE : Hid (childT ⟨#[]⟩ = none) := rfl
    clear h0
    go_enter Tryz.func33, Tryz.ntmps33
    go_wp2
    go_ret
    exact ⟨_, rfl, Or.inl ⟨HE.out, rfl⟩, Below.refl _ _⟩
  have hp : 0 < s.size := by omega
  have hne : ¬ s.toList = [] := fun e => h0 (by rw [same_of (a := s) (b := ⟨#[]⟩) (by rw [e]; simp)]; rfl)
  have hne1 : (s.toList == []) = false := by simp [hne]
  have hhd := head_of s hp
  have hix : ∀ W : World, (Instr.index 9 (.string s) (.int .i64 0)).run Tryz.prog W = .ok (.int .u8 ((byts s).getD 0 0)) W := str_at s 0 hp
  have hrg := byts_range s 0
  have hsl : ∀ W' : World, (Instr.slice 9 (.string s) (some (.int .i64 1)) none none).run Tryz.prog W' = .ok (.string (s.extract 1 s.size)) W' := fun W' => by
    have h := run_slice_string_l W' 9 s Tryz.underlying9 .i64 1 (by omega) (by omega)
    exact h
  have hcall := implReadNumbers_any (s.extract 1 s.size) w (by rw [ByteArray.size_extract]; omega)
  have hbr : Bytes ((byts s).drop 1) := bytes_drop (byts_bytes s) 1
  have htb : byts (s.extract 1 s.size) = (byts s).drop 1 := drop_ext s
  obtain ⟨t, ht⟩ : ∃ t, t = s.extract 1 s.size := ⟨_, rfl⟩
  rw [← ht] at hsl hcall htb
  have HT := Lib.hid ht
  unfold NumsEnd at hcall
  rw [htb] at hcall
  obtain ⟨r, hr⟩ : ∃ r, r = (byts s).drop 1 := ⟨_, rfl⟩
  obtain ⟨b, hb⟩ : ∃ b, b = (byts s).getD 0 0 := ⟨_, rfl⟩
  rw [← hr, ← hb] at hhd
  rw [← hr] at hcall hbr
  rw [← hb] at hix hrg
  have HHD := Lib.hid hhd
  clear hhd hr hb h0 ht htb
  by_cases hb0 : b = 0
  · subst hb0
    have HE : Hid (childT s = some []) := by show _ = _; unfold childT; rw [HHD.out]; rfl
    clear hcall hbr HHD
    go_enter Tryz.func33, Tryz.ntmps33
    go_wp2
    go_ret
    exact ⟨_, rfl, Or.inr (Or.inl ⟨HE.out, congrArg (fun x => Value.iface 56 (.string x)) HT.out⟩), Below.refl _ _⟩
  have hb0' : (b == 0) = false := by simp [hb0]
  by_cases hb1 : b = 1
  rotate_left
  · have hb1' : (b == 1) = false := by simp [hb1]
    have HE : Hid (childT s = none) := by show _ = _; unfold childT; rw [HHD.out, childL_cons, if_neg hb0, if_neg hb1]
    clear hcall hbr HHD
    go_enter Tryz.func33, Tryz.ntmps33
    go_wp2
    go_ret
    exact ⟨_, rfl, Or.inl ⟨HE.out, rfl⟩, Below.refl _ _⟩
  subst hb1
  have HCH := Lib.hid (child_one2 HHD.out hbr)
  clear hb0
  cases hrd : readNums r with
  | none =>
    rw [hrd] at hcall
    have HE : Hid (childT s = none) := by show _ = _; rw [HCH.out, hrd]
    clear hrd HCH HHD hbr
    go_enter Tryz.func33, Tryz.ntmps33
    go_wp2_with fail
    refine hcall.mono ?_
    rintro e w1 ⟨v, rfl, ho1, hb1⟩
    clear ho1 hcall
    go_wp2
    go_ret
    exact ⟨_, rfl, Or.inl ⟨HE.out, rfl⟩, hb1⟩
  | some l =>
    rw [hrd] at hcall
    have hll : l.length ≤ 200 := by
      obtain ⟨_, h2, _⟩ := read_back hbr hrd
      exact h2
    have HCH2 : Hid (childT s = if okBr l then some l else none) := by show _ = _; rw [HCH.out, hrd]
    clear hrd HCH HHD hbr
    go_enter Tryz.func33, Tryz.ntmps33
    go_wp2_with fail
    refine hcall.mono ?_
    rintro e w1 ⟨v, rfl, ho1, hb1⟩
    have ho2 : w1.ownsRow w.heap.size 2 1 v l.length (cellsInt64S l) := ho1
    have hwr := brWrong_any v l w1 (rd_owns ho2) (by omega)
    clear hcall ho1
    by_cases hk : okBr l
    · have HE : Hid (childT s = some l) := by show _ = _; rw [HCH2.out, if_pos hk]
      rw [decide_eq_true hk] at hwr
      have HK := Lib.hid hk
      have HO := Lib.hid ho2
      clear HCH2 hk ho2
      go_wp2_with fail
      refine hwr.mono ?_
      rintro e w2 ⟨rfl, rfl⟩
      go_wp2
      go_ret
      exact ⟨_, rfl, Or.inr (Or.inr ⟨l, v, HE.out, HK.out, rfl, HO.out⟩), hb1⟩
    · have HE : Hid (childT s = none) := by show _ = _; rw [HCH2.out, if_neg hk]
      rw [decide_eq_false hk] at hwr
      clear HCH2 hk ho2
      go_wp2_with fail
      refine hwr.mono ?_
      rintro e w2 ⟨rfl, rfl⟩
      go_wp2
      go_ret
      exact ⟨_, rfl, Or.inl ⟨HE.out, rfl⟩, hb1⟩
theorem asLeaf_yes (W : World) (v : Value) : (Instr.typeAssert (.iface 56 v) 53 56 true).run Tryz.prog W = .ok (.tuple #[v, .bool true]) W := by kernel_rfl
theorem asLeaf_no (W : World) (v : Value) : (Instr.typeAssert (.iface 55 v) 53 56 true).run Tryz.prog W = .ok (.tuple #[.string ⟨#[]⟩, .bool false]) W := by kernel_rfl
theorem asLeaf_nil (W : World) : (Instr.typeAssert .nilIface 53 56 true).run Tryz.prog W = .ok (.tuple #[.string ⟨#[]⟩, .bool false]) W := by kernel_rfl
theorem asBranch_yes (W : World) (v : Value) : (Instr.typeAssert (.iface 55 v) 53 55 true).run Tryz.prog W = .ok (.tuple #[v, .bool true]) W := by kernel_rfl
theorem asBranch_no (W : World) (v : Value) : (Instr.typeAssert (.iface 56 v) 53 55 true).run Tryz.prog W = .ok (.tuple #[.slice none 0 0, .bool false]) W := by kernel_rfl
theorem asBranch_nil (W : World) : (Instr.typeAssert .nilIface 53 55 true).run Tryz.prog W = .ok (.tuple #[.slice none 0 0, .bool false]) W := by kernel_rfl
theorem implChildren_any (s : ByteArray) (w : World) (hs : s.size ≤ 1048576) :
    Calls Tryz.prog 8 #[.string s] w (ChildEnd s w) := by
  have hcall := nodeOf_any s w hs
  have a1 := asLeaf_yes
  have a2 := asLeaf_no
  have a3 := asLeaf_nil
  have a4 := asBranch_yes
  have a5 := asBranch_no
  have a6 := asBranch_nil
  go_enter Tryz.func8, Tryz.ntmps8
  go_wp2_with fail
  refine hcall.mono ?_
  rintro e w1 ⟨v, rfl, hn, hb⟩
  clear hcall
  rcases hn with ⟨hc, rfl⟩ | ⟨hc, rfl⟩ | ⟨l, u, hc, hk, rfl, ho⟩
  · have HE := Lib.hid hc
    clear hc
    go_wp2
    go_ret2
    exact childEnd_none HE.out (World.ownsRow_nil _ _ _ _) hb
  · have HE := Lib.hid hc
    clear hc
    go_wp2
    go_ret2
    exact childEnd_some HE.out (World.ownsRow_nil _ _ _ _) hb
  · have HE := Lib.hid hc
    have HO := Lib.hid ho
    clear hc ho hk
    go_wp2
    go_ret2
    exact childEnd_some HE.out HO.out hb
end Go.Proofs.YtdiammehnakchacGreat
