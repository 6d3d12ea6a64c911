/- CONTRACTS: the specification's Leaf, Branch, Children. -/
import Derived.Test.YtdiammehnakchacGreatTreeMath
import Derived.Test.YtdiammehnakchacGreatReadNums
namespace Go.Proofs.YtdiammehnakchacGreat
open Go.RowKit
set_option linter.unusedVariables false
theorem byts_app8 (a b : ByteArray) : byts (a ++ b) = byts a ++ byts b := by
  unfold byts
  rw [ByteArray.data_append, Array.toList_append, List.map_append]
theorem leaf_cat (c : ByteArray) : (⟨#[0]⟩ : ByteArray) ++ c = leafT c := bytsT_inj (by rw [byts_app8, byts_leaf]; rfl)
theorem br_cat {ds : List Int} (h : okBr ds) : (⟨#[1]⟩ : ByteArray) ++ asB (numsB ds) = brT ds := bytsT_inj (by
  rw [byts_app8, byts_br, brL_ok h, asB_byts _ (fun x hx => br_bytes ds x (by rw [brL_ok h]; simp [hx]))]
  rfl)
theorem br_none {ds : List Int} (h : ¬ okBr ds) : brT ds = ⟨#[]⟩ := by
  unfold brT
  rw [brL_no h]
  rfl
theorem drop_ext (s : ByteArray) : byts (s.extract 1 s.size) = (byts s).drop 1 := by
  unfold byts
  rw [ByteArray.data_extract, Array.toList_extract, List.extract_eq_take_drop, List.map_take, List.map_drop, List.take_of_length_le (by rw [List.length_drop, List.length_map]; exact Nat.le_refl _)]
theorem numsB_30 {ds : List Int} (h : ds.length ≤ 4) : (asB (numsB ds)).size ≤ 30 := by
  rw [asB_size]
  unfold numsB
  split
  · rename_i k
    have h1 := flat_len ds k.2
    have h2 := enc_len6 ds.length (by omega)
    rw [List.length_append]
    omega
  · exact Nat.zero_le _
theorem l1In_any (a lo hi : Int) (w : World) : Calls Tryz.prog 64 #[.int .i64 a, .int .i64 lo, .int .i64 hi] w fun e w' => e = .returned (.bool (decide (lo ≤ a) && decide (a ≤ hi))) ∧ w' = w := by
  by_cases h : lo ≤ a
  · go_enter Tryz.func64, Tryz.ntmps64
    go_wp2
    go_ret
    exact ⟨by simp [h], rfl⟩
  · go_enter Tryz.func64, Tryz.ntmps64
    go_wp2
    go_ret
    exact ⟨by simp; omega, rfl⟩
theorem l2Ok_any (d : Int) (w : World) : Calls Tryz.prog 39 #[.int .i64 d] w fun e w' => e = .returned (.bool (decide (okD d))) ∧ w' = w := by
  go_enter Tryz.func39, Tryz.ntmps39
  go_wp2_with fail
  refine (l1In_any d 1 2147483646 _).mono ?_
  rintro e w8 ⟨rfl, rfl⟩
  go_wp2
  go_ret
  refine ⟨?_, rfl⟩
  show Ending.returned (Value.bool (decide (1 ≤ d) && decide (d ≤ 2147483646))) = _
  rw [← Bool.decide_and]
theorem specLeaf_any (c : ByteArray) (w : World) (hc : c.size ≤ 1048576) : Calls Tryz.prog 17 #[.string c] w fun e w' => e = .returned (.string (leafT c)) ∧ w' = w := by
  have HL : Hid ((⟨#[0]⟩ : ByteArray) ++ c = leafT c) := leaf_cat c
  go_enter Tryz.func17, Tryz.ntmps17
  go_wp2
  go_ret
  exact ⟨by rw [← HL.out]; rfl, rfl⟩
set_option maxHeartbeats 1000000 in
theorem specBranch_any (va : Value) (ds : List Int) (w : World) (ha : Rd w va (cellsInt64S ds)) (hl : ds.length ≤ 140737488355328) :
    Calls Tryz.prog 15 #[va] w fun e w' => e = .returned (.string (brT ds)) ∧ Below w.heap.size w w' := by
  have hla : (cellsInt64S ds).length = ds.length := by simp
  have HNU := Lib.hid (specNumbers_any va ds w ha hl)
  by_cases h14 : 1 ≤ ds.length ∧ ds.length ≤ 4
  rotate_left
  · rw [br_none (fun h => h14 ⟨h.1, h.2.1⟩)]
    obtain ⟨ao, cap, rfl, _, _⟩ := ha
    rw [hla]
    obtain ⟨n, hn⟩ : ∃ n, n = ds.length := ⟨_, rfl⟩
    rw [← hn] at h14 ⊢
    clear HNU hla hn
    by_cases h1 : (n : Int) < 1
    · go_enter Tryz.func15, Tryz.ntmps15
      go_wp2
      go_ret
      exact ⟨rfl, Below.refl _ _⟩
    · have h4 : (4 : Int) < (n : Int) := by omega
      go_enter Tryz.func15, Tryz.ntmps15
      go_wp2
      go_ret
      exact ⟨rfl, Below.refl _ _⟩
  have H30 : Hid ((asB (numsB ds)).size ≤ 30) := numsB_30 h14.2
  have HNO : Hid (∀ i, i < ds.length → ¬ okD (ds.getD i 0) → brT ds = ⟨#[]⟩) := fun i hi h => br_none fun k => h (k.2.2 _ (by
    have e : ds.getD i 0 = ds[i] := by simp [List.getD, hi]
    rw [e]
    exact List.getElem_mem hi))
  have HYES : Hid ((∀ i, i < ds.length → okD (ds.getD i 0)) → (⟨#[1]⟩ : ByteArray) ++ asB (numsB ds) = brT ds) := fun h => br_cat ⟨h14.1, h14.2, fun d hd => by
    obtain ⟨i, hi, rfl⟩ := List.getElem_of_mem hd
    have := h i hi
    simpa [List.getD, hi] using this⟩
  rcases rd_cases ha with ⟨h0, _⟩ | ⟨hp, b, off, cap, rfl, _, hlt, hc⟩
  · have h9 := congrArg List.length h0
    rw [hla] at h9
    simp at h9
    rw [h9] at h14
    exact absurd h14.1 (by simp)
  rw [hla] at hc hp HNU
  have HA : Hid (∀ j, j < ds.length → w.cell? ⟨b, off + j, none⟩ = some (.int .i64 (ds.getD j 0))) := fun j hj => (hc j hj).trans (ints_get _ ds j hj)
  rw [hla]
  generalize brT ds = R at HNO HYES ⊢
  obtain ⟨n, hn⟩ : ∃ n, n = ds.length := ⟨_, rfl⟩
  rw [← hn] at h14 hl HNO HYES HA HNU hp ⊢
  clear hc ha hn hla
  have h1 : ¬ (n : Int) < 1 := by omega
  have h4 : ¬ (4 : Int) < (n : Int) := by omega
  go_enter Tryz.func15, Tryz.ntmps15
  go_wp2
  go_loop [3] (fun i => ∃ k : Nat, k ≤ n ∧ i = .int .i64 k ∧ Hid (∀ j, j < k → okD (ds.getD j 0))) (fun i => n - (intOf i).toNat)
  case atStart => exact ⟨0, Nat.zero_le _, rfl, fun j h => by omega⟩
  case round =>
    obtain ⟨k, hk, rfl, hok⟩ := hrel
    by_cases hltk : k < n
    focus
      have d0 := HA.out k hltk
      have hno := Lib.hid (HNO.out k hltk)
      have hnew : Hid (okD (ds.getD k 0) → ∀ j, j < k + 1 → okD (ds.getD j 0)) := fun h j hj => by
        rcases Nat.lt_or_ge j k with g | g
        · exact hok.out j g
        · obtain rfl : j = k := by omega
          exact h
      obtain ⟨x, hx⟩ : ∃ x, x = ds.getD k 0 := ⟨_, rfl⟩
      rw [← hx] at d0 hno hnew
      clear hx hok
      have hcall := l2Ok_any x w
      by_cases hx : okD x
      · rw [decide_eq_true hx] at hcall
        have HNW := Lib.hid (hnew.out hx)
        clear hx hno hnew
        go_wp2_with fail
        refine hcall.mono ?_
        rintro e w8 ⟨rfl, rfl⟩
        go_wp2
        go_round
        case rel => exact ⟨k + 1, by omega, by go_num, HNW⟩
        case measure => simp [intOf]; omega
      · rw [decide_eq_false hx] at hcall
        have HR := Lib.hid (hno.out hx)
        clear hx hno hnew
        go_wp2_with fail
        refine hcall.mono ?_
        rintro e w8 ⟨rfl, rfl⟩
        go_wp2
        go_ret
        exact ⟨by show Ending.returned (Value.string ⟨#[]⟩) = _; rw [HR.out], Below.refl _ _⟩
    have HR := Lib.hid (HYES.out (fun i hi => hok.out i (by omega)))
    have hltI : ¬ (k : Int) < (n : Int) := by omega
    obtain ⟨t, ht⟩ : ∃ t, t = asB (numsB ds) := ⟨_, rfl⟩
    have hnu := HNU.out
    have ht30 := H30.out
    rw [← ht] at HR hnu ht30
    clear ht
    go_wp2_with fail
    refine hnu.mono ?_
    rintro e w8 ⟨rfl, hb8⟩
    clear hnu
    go_wp2
    go_ret
    exact ⟨by rw [← HR.out]; rfl, hb8⟩
def ChildEnd (s : ByteArray) (w : World) (e : Ending) (w' : World) : Prop :=
  ∃ v, e = .returned (.tuple #[v, .bool (childT s).isSome]) ∧ w'.ownsRow w.heap.size 2 1 v ((childT s).getD []).length (cellsInt64S ((childT s).getD [])) ∧ Below w.heap.size w w'
theorem childEnd_none {s : ByteArray} {w w' : World} {v : Value} (h : childT s = none) (ho : w'.ownsRow w.heap.size 2 1 v 0 []) (hb : Below w.heap.size w w') : ChildEnd s w (.returned (.tuple #[v, .bool false])) w' := by
  refine ⟨v, ?_, ?_, hb⟩
  · rw [h]; rfl
  · rw [h]; exact ho
theorem childEnd_some {s : ByteArray} {w w' : World} {v : Value} {l : List Int} (h : childT s = some l) (ho : w'.ownsRow w.heap.size 2 1 v l.length (cellsInt64S l)) (hb : Below w.heap.size w w') : ChildEnd s w (.returned (.tuple #[v, .bool true])) w' := by
  refine ⟨v, ?_, ?_, hb⟩
  · rw [h]; rfl
  · rw [h]; exact ho
theorem head_of (s : ByteArray) (h : 0 < s.size) : byts s = (byts s).getD 0 0 :: (byts s).drop 1 := by
  have hl := byts_len s
  cases e : byts s with
  | nil => rw [e] at hl; simp at hl; omega
  | cons b r => rfl
theorem empty_of {s : ByteArray} (h : s.size = 0) : s = ⟨#[]⟩ := by
  apply ByteArray.ext
  exact Array.eq_empty_of_size_eq_zero h
theorem child_one {s : ByteArray} {r : List Int} (h : byts s = 1 :: r) : childT s = match readNums r with
    | some l => if brT l = s then some l else none
    | none => none := by
  unfold childT
  rw [h, childL_cons, if_neg (by decide), if_pos rfl]
  cases readNums r with
  | none => rfl
  | some l =>
    simp only
    by_cases e : brT l = s
    · rw [if_pos e, if_pos (by rw [← byts_br, e, h])]
    · rw [if_neg e, if_neg (fun k => e (bytsT_inj (by rw [byts_br, k, h])))]
set_option maxHeartbeats 2000000 in
set_option maxRecDepth 100000 in
theorem specChildren_any (s : ByteArray) (w : World) (hs : s.size ≤ 1048576) :
    Calls Tryz.prog 12 #[.string s] w (ChildEnd s w) := by
  have ho0 : ∀ W : World, w.heap.size ≤ W.heap.size → (W.alloc (.cells #[] 2)).ownsRow w.heap.size 2 1 (.slice (some ⟨W.heap.size, 0, none⟩) 0 0) 0 (cellsInt64S []) := fun W h => World.ownsRow_lit (base := w.heap.size) (e := 2) (size := 1) W #[] 0 h (Nat.zero_le _) rfl
  by_cases h0 : s.size = 0
  · obtain rfl := empty_of h0
    have HE : Hid (childT ⟨#[]⟩ = none) := rfl
    have HO := Lib.hid (ho0 w (Nat.le_refl _))
    have HB := Lib.hid ((Below.refl w.heap.size w).alloc (Nat.le_refl _) (.cells #[] 2))
    clear ho0 h0
    go_enter Tryz.func12, Tryz.ntmps12
    go_wp2
    go_ret2
    exact childEnd_none HE.out HO.out HB.out
  have hp : 0 < s.size := by omega
  have hne : ¬ s.toList = [] := fun e => h0 (by rw [same_of (a := s) (b := ⟨#[]⟩) (by rw [e]; simp)]; rfl)
  have hne1 : (s.toList == []) = false := by simp [hne]
  have hhd := head_of s hp
  have hix : ∀ W : World, (Instr.index 9 (.string s) (.int .i64 0)).run Tryz.prog W = .ok (.int .u8 ((byts s).getD 0 0)) W := str_at s 0 hp
  have hrg := byts_range s 0
  obtain ⟨r, hr⟩ : ∃ r, r = (byts s).drop 1 := ⟨_, rfl⟩
  obtain ⟨b, hb⟩ : ∃ b, b = (byts s).getD 0 0 := ⟨_, rfl⟩
  rw [← hr, ← hb] at hhd
  rw [← hb] at hix hrg
  have HHD := Lib.hid hhd
  have HRR := Lib.hid hr
  clear hhd hr hb h0
  by_cases hb0 : b = 0
  · subst hb0
    have HE : Hid (childT s = some []) := by show _ = _; unfold childT; rw [HHD.out]; rfl
    have HO := Lib.hid (ho0 w (Nat.le_refl _))
    have HB := Lib.hid ((Below.refl w.heap.size w).alloc (Nat.le_refl _) (.cells #[] 2))
    clear ho0
    go_enter Tryz.func12, Tryz.ntmps12
    go_wp2
    go_ret2
    exact childEnd_some HE.out HO.out HB.out
  have hb0' : (b == 0) = false := by simp [hb0]
  by_cases hb1 : b = 1
  rotate_left
  · have hb1' : (b == 1) = false := by simp [hb1]
    have HE : Hid (childT s = none) := by show _ = _; unfold childT; rw [HHD.out, childL_cons, if_neg hb0, if_neg hb1]
    have HO := Lib.hid (ho0 w (Nat.le_refl _))
    have HB := Lib.hid ((Below.refl w.heap.size w).alloc (Nat.le_refl _) (.cells #[] 2))
    clear ho0
    go_enter Tryz.func12, Tryz.ntmps12
    go_wp2
    go_ret2
    exact childEnd_none HE.out HO.out HB.out
  subst hb1
  have hsl : ∀ W' : World, (Instr.slice 9 (.string s) (some (.int .i64 1)) none none).run Tryz.prog W' = .ok (.string (s.extract 1 s.size)) W' := fun W' => by
    have h := run_slice_string_l W' 9 s Tryz.underlying9 .i64 1 (by omega) (by omega)
    exact h
  have hcall := specReadNumbers_any (s.extract 1 s.size) w (by rw [ByteArray.size_extract]; omega)
  have htb : byts (s.extract 1 s.size) = r := by rw [drop_ext]; exact HRR.out.symm
  have HCH := Lib.hid (child_one HHD.out)
  obtain ⟨t, ht⟩ : ∃ t, t = s.extract 1 s.size := ⟨_, rfl⟩
  rw [← ht] at hsl hcall htb
  unfold NumsEnd at hcall
  rw [htb] at hcall
  clear ht htb hb0
  cases hrd : readNums r with
  | none =>
    rw [hrd] at hcall
    have HE : Hid (childT s = none) := by show _ = _; rw [HCH.out, hrd]
    clear hrd HCH HHD HRR
    go_enter Tryz.func12, Tryz.ntmps12
    go_wp2_with fail
    refine hcall.mono ?_
    rintro e w1 ⟨v, rfl, ho1, hb1⟩
    have HO := Lib.hid (ho0 w1 hb1.size)
    have HB := Lib.hid (hb1.alloc hb1.size (.cells #[] 2))
    clear ho0 ho1 hb1 hcall
    go_wp2
    go_ret2
    exact childEnd_none HE.out HO.out HB.out
  | some l =>
    rw [hrd] at hcall
    have hll : l.length ≤ 200 := by
      obtain ⟨_, h2, _⟩ := read_back (zs := r) (by rw [HRR.out]; exact bytes_drop (byts_bytes s) 1) hrd
      exact h2
    have HCH2 : Hid (childT s = if brT l = s then some l else none) := by show _ = _; rw [HCH.out, hrd]
    clear hrd HCH HHD HRR
    go_enter Tryz.func12, Tryz.ntmps12
    go_wp2_with fail
    refine hcall.mono ?_
    rintro e w1 ⟨v, rfl, ho1, hb1⟩
    have ho2 : w1.ownsRow w.heap.size 2 1 v l.length (cellsInt64S l) := ho1
    have hbr := specBranch_any v l w1 (rd_owns ho2) (by omega)
    clear hcall ho1
    by_cases he : brT l = s
    · have HE : Hid (childT s = some l) := by show _ = _; rw [HCH2.out, if_pos he]
      rw [he] at hbr
      clear HCH2 he
      go_wp2_with fail
      refine hbr.mono ?_
      rintro e w2 ⟨rfl, hb2⟩
      have HO := Lib.hid (owns_below ho2 hb2)
      have HB := Lib.hid (hb1.trans (hb2.mono hb1.size))
      clear ho0 hb1 hb2 ho2 hbr
      go_wp2
      go_ret2
      exact childEnd_some HE.out HO.out HB.out
    · have HE : Hid (childT s = none) := by show _ = _; rw [HCH2.out, if_neg he]
      obtain ⟨u, hu⟩ : ∃ u, u = brT l := ⟨_, rfl⟩
      rw [← hu] at hbr he
      have g0 : ¬ u.toList = s.toList := fun e => he (same_of e)
      have g1 : (u.toList == s.toList) = false := by simp [g0]
      clear HCH2 he hu
      go_wp2_with fail
      refine hbr.mono ?_
      rintro e w2 ⟨rfl, hb2⟩
      have hB2 := hb1.trans (hb2.mono hb1.size)
      have HO := Lib.hid (ho0 w2 hB2.size)
      have HB := Lib.hid (hB2.alloc hB2.size (.cells #[] 2))
      clear ho0 hb1 hb2 ho2 hbr hB2
      go_wp2
      go_ret2
      exact childEnd_none HE.out HO.out HB.out
end Go.Proofs.YtdiammehnakchacGreat
