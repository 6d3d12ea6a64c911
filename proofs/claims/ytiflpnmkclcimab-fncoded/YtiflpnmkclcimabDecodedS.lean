/- CONTRACTS: the specification's Decoded. -/
import Derived.Test.YtiflpnmkclcimabCodedS
import Derived.Test.YtiflpnmkclcimabRolls
import Derived.Laws.AppendOwn
namespace Go.Proofs.Ytiflpnmkclcimab
open Go.RowKit
set_option linter.unusedVariables false

theorem text_same {s t : ByteArray} (h : byts s = byts t) : s = t := by
  have e : ∀ u : ByteArray, asB (byts u) = u := fun u => by
    apply ByteArray.ext
    unfold asB byts
    rw [List.map_map]
    simp [Function.comp_def]
  rw [← e s, ← e t, h]
/-- the codes as lists -/
def codeL (cs : List ByteArray) : List (List Int) := cs.map byts
theorem codeL_len (cs : List ByteArray) : (codeL cs).length = cs.length := List.length_map _
theorem codeL_get (cs : List ByteArray) (i : Nat) (h : i < cs.length) : (codeL cs).getD i [] = byts (cs.getD i ByteArray.empty) := by simp [codeL, List.getD, h]
theorem codeL_size (cs : List ByteArray) (i : Nat) (h : i < cs.length) : ((codeL cs).getD i []).length = (cs.getD i ByteArray.empty).size := by rw [codeL_get cs i h, byts_len]
/-- what Decoded tells -/
def decodedT (s : ByteArray) (cs : List ByteArray) : Option ByteArray :=
  if s.size ≤ 20000 ∧ cs.length ≤ 32 ∧ ∀ i, i < cs.length → (cs.getD i ByteArray.empty).size ≠ 0 then (Huff.decG (codeL cs) (byts s)).map fun is => asB (is.map fun (i : Nat) => (i : Int)) else none
/-- does the code stand there? -/
def hit5 (s : ByteArray) (a : Nat) (c : ByteArray) : Prop := c.size ≤ s.size - a ∧ s.extract a (a + c.size) = c
theorem hit5_iff (s : ByteArray) (a : Nat) (c : ByteArray) : ((byts s).drop a).take (byts c).length = byts c ↔ hit5 s a c := by
  unfold hit5
  have e : byts (s.extract a (a + c.size)) = ((byts s).drop a).take (byts c).length := by rw [byts_extract, byts_len, Nat.add_sub_cancel_left]
  constructor
  · intro h
    refine ⟨?_, text_same (e.trans h)⟩
    have := congrArg List.length h
    rw [List.length_take, List.length_drop, byts_len, byts_len] at this
    omega
  · rintro ⟨_, h⟩
    rw [← e, h]

theorem dec_end (s : ByteArray) (cs : List ByteArray) : Huff.decG (codeL cs) ((byts s).drop s.size) = some [] := by
  rw [List.drop_of_length_le (by rw [byts_len]; exact Nat.le_refl _)]
  exact Huff.decG_nil _
theorem drop_ne (s : ByteArray) {a : Nat} (h : a < s.size) : (byts s).drop a ≠ [] := fun e => by
  have := congrArg List.length e
  rw [List.length_drop, byts_len] at this
  simp at this
  omega
theorem dec_none (s : ByteArray) (cs : List ByteArray) {a : Nat} (ha : a < s.size) (h : ∀ i, i < cs.length → ¬ hit5 s a (cs.getD i ByteArray.empty)) : Huff.decG (codeL cs) ((byts s).drop a) = none :=
  Huff.decG_none (drop_ne s ha) (Huff.find_none_of fun i hi => by
    rw [codeL_len] at hi
    rw [codeL_get cs i hi]
    exact fun e => h i hi ((hit5_iff s a _).1 e))
theorem dec_some (s : ByteArray) (cs : List ByteArray) (hne : ∀ i, i < cs.length → (cs.getD i ByteArray.empty).size ≠ 0) {a i : Nat} (ha : a < s.size) (hi : i < cs.length) (h : hit5 s a (cs.getD i ByteArray.empty)) (h2 : ∀ j, j < i → ¬ hit5 s a (cs.getD j ByteArray.empty)) :
    Huff.decG (codeL cs) ((byts s).drop a) = (Huff.decG (codeL cs) ((byts s).drop (a + (cs.getD i ByteArray.empty).size))).map (i :: ·) := by
  rw [Huff.decG_some (i := i) (fun j hj => by
    rw [codeL_len] at hj
    intro e
    have := codeL_size cs j hj
    rw [e] at this
    exact hne j hj this.symm) (drop_ne s ha) (Huff.find_of (by rw [codeL_len]; exact hi) (by rw [codeL_get cs i hi]; exact (hit5_iff s a _).2 h) fun j hj => by
      rw [codeL_get cs j (by omega)]
      exact fun e => h2 j hj ((hit5_iff s a _).1 e)), codeL_size cs i hi, List.drop_drop]
theorem size_zero (x : ByteArray) : x.size = 0 ↔ x = ⟨#[]⟩ := by
  constructor
  · intro h
    apply ByteArray.ext
    exact Array.eq_empty_of_size_eq_zero h
  · rintro rfl; rfl

set_option maxHeartbeats 2000000 in
set_option maxRecDepth 100000 in
theorem specDecoded_any (s : ByteArray) (va : Value) (cs : List ByteArray) (w : World) (hss : s.size ≤ 1099511627776) (ha : Rd w va (cellsS cs)) (hl : cs.length ≤ 1099511627776) (hs : ∀ s ∈ cs, s.size ≤ 1099511627776) :
    Calls Try.prog 35 #[.string s, va] w fun e w' => e = .returned (optV (decodedT s cs)) ∧ Below w.heap.size w w' := by
  obtain ⟨i0, hi, hz0, hz1, hz2⟩ := info_parts Try.infoB
  have hla : (cellsS cs).length = cs.length := by simp
  obtain ⟨ao, cap, rfl, hcap, hx⟩ := ha
  rw [hla] at hcap hx ⊢
  have HX : Hid (∀ j, j < cs.length → ∃ b off, ao = some ⟨b, off, none⟩ ∧ b < w.heap.size ∧ w.cell? ⟨b, off + j, none⟩ = some (.string (cs.getD j ByteArray.empty))) := fun j hj => by
    obtain ⟨b, off, h1, h2, h3⟩ := hx (by intro h; rw [h] at hla; simp at hla; omega)
    exact ⟨b, off, h1, h2, (h3 j hj).trans (strs_get cs j hj)⟩
  have HS : Hid (∀ j, j < cs.length → (cs.getD j ByteArray.empty).size ≤ 1099511627776) := fun j hj => by
    have e : cs.getD j ByteArray.empty = cs[j] := by simp [List.getD, hj]
    rw [e]
    exact hs _ (List.getElem_mem hj)
  have HBAD : Hid (¬ (s.size ≤ 20000 ∧ cs.length ≤ 32 ∧ ∀ i, i < cs.length → (cs.getD i ByteArray.empty).size ≠ 0) → decodedT s cs = none) := fun h => by unfold decodedT; rw [if_neg h]
  have HOK : Hid ((s.size ≤ 20000 ∧ cs.length ≤ 32 ∧ ∀ i, i < cs.length → (cs.getD i ByteArray.empty).size ≠ 0) → decodedT s cs = (Huff.decG (codeL cs) ((byts s).drop 0)).map fun is => asB (is.map fun (i : Nat) => (i : Int))) := fun h => by unfold decodedT; rw [if_pos h]; rfl
  obtain ⟨F, HEND, HNONE, HSOME, HOK2⟩ : ∃ F : Nat → Option (List Nat), Hid (F s.size = some []) ∧
      Hid (∀ a, a < s.size → (∀ i, i < cs.length → ¬ hit5 s a (cs.getD i ByteArray.empty)) → F a = none) ∧
      Hid ((∀ i, i < cs.length → (cs.getD i ByteArray.empty).size ≠ 0) → ∀ a i, a < s.size → i < cs.length → hit5 s a (cs.getD i ByteArray.empty) → (∀ j, j < i → ¬ hit5 s a (cs.getD j ByteArray.empty)) → F a = (F (a + (cs.getD i ByteArray.empty).size)).map (i :: ·)) ∧
      Hid ((s.size ≤ 20000 ∧ cs.length ≤ 32 ∧ ∀ i, i < cs.length → (cs.getD i ByteArray.empty).size ≠ 0) → decodedT s cs = (F 0).map fun is => asB (is.map fun (i : Nat) => (i : Int))) :=
    ⟨fun a => Huff.decG (codeL cs) ((byts s).drop a), dec_end s cs, fun a ha h => dec_none s cs ha h, fun hne a i ha hi h h2 => dec_some s cs hne ha hi h h2, HOK.out⟩
  clear HOK
  generalize decodedT s cs = z at HBAD HOK2 ⊢
  obtain ⟨n, hn⟩ : ∃ n, n = cs.length := ⟨_, rfl⟩
  rw [← hn] at hcap HX HS HBAD HOK2 HNONE HSOME hl ⊢
  clear hx hla hs hn
  by_cases hb1 : 20000 < s.size
  focus
    have hG := HBAD.out (by omega)
    subst hG
    have hbI : 20000 < (s.size : Int) := by omega
    clear HX HS HBAD HOK2 HEND HNONE HSOME
    go_enter Try.func35, Try.ntmps35
    go_wp2
    go_ret2
    exact ⟨rfl, Below.refl _ _⟩
  by_cases hb2 : 32 < n
  focus
    have hG := HBAD.out (by omega)
    subst hG
    have hbI : ¬ 20000 < (s.size : Int) := by omega
    have hbI2 : 32 < (n : Int) := by omega
    clear HX HS HBAD HOK2 HEND HNONE HSOME
    go_enter Try.func35, Try.ntmps35
    go_wp2
    go_ret2
    exact ⟨rfl, Below.refl _ _⟩
  have hbI : ¬ 20000 < (s.size : Int) := by omega
  have hbI2 : ¬ 32 < (n : Int) := by omega
  have hn32 : n ≤ 32 := by omega
  have hs20 : s.size ≤ 20000 := by omega
  go_enter Try.func35, Try.ntmps35
  go_wp2
  clear hbI hbI2
  go_loop [6] (fun i => ∃ k : Nat, i = .int .i64 k ∧ k ≤ n ∧ Hid (∀ i, i < k → (cs.getD i ByteArray.empty).size ≠ 0)) (fun i => n - (intOf i).toNat)
  case atStart => exact ⟨0, rfl, Nat.zero_le _, fun j h => by omega⟩
  case round =>
    obtain ⟨k, rfl, hk, hne⟩ := hrel
    by_cases hlt : k < n
    focus
      obtain ⟨b, off, rfl, hbl, hc⟩ := HX.out k hlt
      obtain ⟨x, hxx⟩ : ∃ x, x = cs.getD k ByteArray.empty := ⟨_, rfl⟩
      have HXX : Hid (x = cs.getD k ByteArray.empty) := hxx
      rw [← hxx] at hc
      clear hxx
      by_cases hx0 : x = ⟨#[]⟩
      · have hG := HBAD.out (fun h => h.2.2 k hlt (by rw [← HXX.out]; exact (size_zero x).2 hx0))
        subst hG
        subst hx0
        clear HX HS HBAD HOK2 HEND HNONE HSOME hne
        go_wp2
        go_ret2
        exact ⟨rfl, Below.refl _ _⟩
      · have hxe : ¬ x.toList = [] := fun e => hx0 (same_of (b := ⟨#[]⟩) (by rw [e]; simp))
        have hxe2 : (x.toList == []) = false := by simp [hxe]
        have HN2 : Hid (∀ i, i < k + 1 → (cs.getD i ByteArray.empty).size ≠ 0) := fun i hi => by
          rcases Nat.lt_or_ge i k with h | h
          · exact hne.out i h
          · obtain rfl : i = k := by omega
            rw [← HXX.out]
            exact fun e => hx0 ((size_zero x).1 e)
        clear hne
        go_wp2
        go_round
        case rel => exact ⟨k + 1, by go_num, by omega, HN2.out⟩
        case measure => simp [intOf]; omega
    obtain rfl : k = n := by omega
    have HNE : Hid (∀ i, i < k → (cs.getD i ByteArray.empty).size ≠ 0) := hne
    have HZ : Hid (z = (F 0).map fun is => asB (is.map fun (i : Nat) => (i : Int))) := HOK2.out ⟨hs20, hn32, hne.out⟩
    have HSM : Hid (∀ a i, a < s.size → i < k → hit5 s a (cs.getD i ByteArray.empty) → (∀ j, j < i → ¬ hit5 s a (cs.getD j ByteArray.empty)) → F a = (F (a + (cs.getD i ByteArray.empty).size)).map (i :: ·)) := HSOME.out hne.out
    clear HBAD HOK2 HSOME hne
    go_wp2
    go_loopw [7, 8] (fun v q wr => ∃ (a : Nat) (is : List Nat), q = .int .i64 a ∧ a ≤ s.size ∧ is.length ≤ a ∧ wr.ownsRow w.heap.size 5 1 v is.length (cellsByteS (is.map fun (i : Nat) => (i : Int))) ∧ Hid ((∀ i ∈ is, i < 32) ∧ F 0 = (F a).map (is ++ ·)) ∧ Below w.heap.size w wr) (fun _ q _ => s.size - (intOf q).toNat)
    case atStart => exact ⟨0, [], rfl, Nat.zero_le _, Nat.le_refl _, World.ownsRow_lit w #[] 0 (Nat.le_refl _) (Nat.zero_le _) rfl, ⟨fun i hi => (by cases hi), (by cases F 0 <;> rfl)⟩, (Below.refl _ _).alloc (Nat.le_refl _) _⟩
    case round =>
      obtain ⟨a, is, rfl, haa, hil, ho, hf, hb⟩ := hrel
      by_cases halt : a < s.size
      focus
        have haI : (a : Int) < (s.size : Int) := by omega
        have HNa : Hid ((∀ i, i < k → ¬ hit5 s a (cs.getD i ByteArray.empty)) → F a = none) := HNONE.out a halt
        have HSa : Hid (∀ i, i < k → hit5 s a (cs.getD i ByteArray.empty) → (∀ j, j < i → ¬ hit5 s a (cs.getD j ByteArray.empty)) → F a = (F (a + (cs.getD i ByteArray.empty).size)).map (i :: ·)) := fun i => HSM.out a i halt
        have HFa : Hid (F a = none → z = none) := fun e => by rw [HZ.out, hf.out.2, e]; rfl
        have hsz0 := hb.size
        go_wp2
        go_loopw [9, 10] (fun f i w2 => ∃ k' d : Nat, i = .int .i64 k' ∧ k' ≤ k ∧ w2 = wr.drewN d ∧ ((f = .int .i64 (-1) ∧ Hid (∀ j, j < k' → ¬ hit5 s a (cs.getD j ByteArray.empty))) ∨ ∃ m : Nat, f = .int .i64 m ∧ m < k ∧ Hid (hit5 s a (cs.getD m ByteArray.empty) ∧ ∀ j, j < m → ¬ hit5 s a (cs.getD j ByteArray.empty)))) (fun _ i _ => k - (intOf i).toNat)
        case atStart => exact ⟨0, 0, rfl, Nat.zero_le _, rfl, Or.inl ⟨rfl, fun j h => by omega⟩⟩
        case round =>
          obtain ⟨k', d, rfl, hk', rfl, hff⟩ := hrel
          rcases hff with ⟨rfl, hno⟩ | ⟨m, rfl, hm, hyes⟩
          focus
            by_cases hkk : k' < k
            focus
              obtain ⟨b, off, rfl, hbl, hc0⟩ := HX.out k' hkk
              have hc := (hb.cell (p := ⟨b, off + k', none⟩) hbl).trans hc0
              have hsz := HS.out k' hkk
              have HIT : Hid (∀ P : Prop, (hit5 s a (cs.getD k' ByteArray.empty) → P) → (¬ hit5 s a (cs.getD k' ByteArray.empty) → P) → P) := fun P h1 h2 => (Classical.em _).elim h1 h2
              have hnn : ¬ hit5 s a (cs.getD k' ByteArray.empty) → ∀ j, j < k' + 1 → ¬ hit5 s a (cs.getD j ByteArray.empty) := fun h j hj => by
                rcases Nat.lt_or_ge j k' with h2 | h2
                · exact hno.out j h2
                · obtain rfl : j = k' := by omega
                  exact h
              have HNN : Hid (¬ hit5 s a (cs.getD k' ByteArray.empty) → ∀ j, j < k' + 1 → ¬ hit5 s a (cs.getD j ByteArray.empty)) := hnn
              obtain ⟨x, hxx⟩ : ∃ x, x = cs.getD k' ByteArray.empty := ⟨_, rfl⟩
              have HXX : Hid (x = cs.getD k' ByteArray.empty) := hxx
              rw [← hxx] at hc hsz
              clear hnn hxx hc0
              by_cases hfit : x.size ≤ s.size - a
              focus
                have hfI : (x.size : Int) ≤ (s.size : Int) - (a : Int) := by omega
                have hsl : ∀ W' : World, (Instr.slice 9 (.string s) (some (.int .i64 (a : Int))) (some (.int .i64 ((a : Int) + (x.size : Int)))) none).run Try.prog W' = .ok (.string (s.extract a (a + x.size))) W' := fun W' => by
                  rw [run_slice_string _ 9 s .i64 .i64 _ _ Try.underlying9 (by omega) (by omega) (by omega)]
                  rw [show ((a : Int) + (x.size : Int)).toNat = a + x.size by omega, Int.toNat_natCast]
                have HH : Hid (hit5 s a (cs.getD k' ByteArray.empty) ↔ s.extract a (a + x.size) = x) := by
                  show _ ↔ _
                  unfold hit5
                  rw [← HXX.out]
                  exact ⟨fun h => h.2, fun h => ⟨hfit, h⟩⟩
                obtain ⟨t, ht⟩ : ∃ t, t = s.extract a (a + x.size) := ⟨_, rfl⟩
                rw [← ht] at hsl HH
                clear ht
                by_cases htx : t = x
                focus
                  have HY : Hid (hit5 s a (cs.getD k' ByteArray.empty) ∧ ∀ j, j < k' → ¬ hit5 s a (cs.getD j ByteArray.empty)) := ⟨HH.out.2 htx, hno.out⟩
                  subst htx
                  clear HH HXX HNN hno HIT
                  go_wp2
                  go_quiet (fail)
                  go_wp2
                  go_roundw
                  case rel => exact ⟨k' + 1, _, by go_num, by omega, rfl, Or.inr ⟨k', rfl, hkk, HY⟩⟩
                  case measure => simp [intOf]; omega
                have HY := HNN.out (fun e => htx (HH.out.1 e))
                have HYH : Hid (∀ j, j < k' + 1 → ¬ hit5 s a (cs.getD j ByteArray.empty)) := HY
                have hnl : ¬ t.toList = x.toList := fun e => htx (same_of e)
                have hnl2 : (t.toList == x.toList) = false := by simp [hnl]
                clear HH HXX HNN hno HIT HY
                go_wp2
                go_quiet (fail)
                go_wp2
                go_roundw
                case rel => exact ⟨k' + 1, _, by go_num, by omega, rfl, Or.inl ⟨rfl, HYH.out⟩⟩
                case measure => simp [intOf]; omega
              have HYH : Hid (∀ j, j < k' + 1 → ¬ hit5 s a (cs.getD j ByteArray.empty)) := HNN.out (fun e => hfit (by rw [HXX.out]; exact e.1))
              clear HXX HNN hno HIT
              go_wp2
              have hfD : decide ((x.size : Int) ≤ (s.size : Int) - (a : Int)) = false := by simp; omega
              go_quiet (fail)
              go_wp2
              go_roundw
              case rel => exact ⟨k' + 1, _, by go_num, by omega, rfl, Or.inl ⟨rfl, HYH.out⟩⟩
              case measure => simp [intOf]; omega
            obtain rfl : k' = k := by omega
            have hG := HFa.out (HNa.out hno.out)
            subst hG
            have hB9 := below_drewN hb d
            clear HX HS HNE HZ HSM HNa HSa HFa HEND HNONE hf hno
            go_wp2
            go_ret2
            exact ⟨rfl, hB9⟩
          have hstep : F a = (F (a + (cs.getD m ByteArray.empty).size)).map (m :: ·) := HSa.out m hm hyes.out.1 hyes.out.2
          have hne1 := HNE.out m hm
          have hfit := hyes.out.1.1
          obtain ⟨b, off, rfl, hbl, hc0⟩ := HX.out m hm
          have hc := ((below_drewN hb d).cell (p := ⟨b, off + m, none⟩) hbl).trans hc0
          have hcw := hc0
          have hsz := HS.out m hm
          obtain ⟨x, hxx⟩ : ∃ x, x = cs.getD m ByteArray.empty := ⟨_, rfl⟩
          rw [← hxx] at hc hsz hstep hne1 hfit hcw
          have HCW : Hid (w.cell? ⟨b, off + m, none⟩ = some (.string x)) := hcw
          clear hcw
          have HF2 : Hid ((∀ i ∈ is ++ [m], i < 32) ∧ F 0 = (F (a + x.size)).map ((is ++ [m]) ++ ·)) := ⟨fun i hi => by
            rcases List.mem_append.1 hi with h | h
            · exact hf.out.1 i h
            · simp at h; omega, by
            rw [hf.out.2, hstep, Option.map_map]
            congr 1
            funext l
            simp⟩
          have hB9 := below_drewN hb d
          have ho9 := owns_below ho (below_drewN (Below.refl _ wr) d)
          have hsz9 := hB9.size
          have hm256 : (m : Int) % 256 = m := by omega
          clear hxx hc0 hstep HFa HSa HNa hyes hf hb ho hsz0
          generalize wr.drewN d = w9 at hB9 ho9 hsz9 hc ⊢
          by_cases hkk : k' < k
          all_goals
            have hmI : ¬ (m : Int) < 0 := by omega
            go_wp2_with (at_builtin; refine wpList_append_own _ rfl _ _ 22 rfl w.heap.size 5 i0 (.int .u8 0) 1 1 Try.underlying22 hi hz0 hz1 hz2 rfl (by decide) _ _ _ rfl (ho9.alloc _) ⟨w9.heap.size, 0, none⟩ 1 1 [.int .u8 (m : Int)] rfl rfl (one_cell w9 .u8 _ _) (ints_oneCell .u8 [(m : Int)]) ?c3 ?c4 ?c5 ?_)
            case c3 => unfold maxLen; omega
            case c4 => omega
            case c5 => omega
            intro v10 w10 ho10 hg10 _
            have hB10 : Below w.heap.size w w10 := (hB9.alloc (by omega) _).grown hg10 (by simp; omega) (fun q hq => (ho9.lt q hq).1)
            have ho11 : w10.ownsRow w.heap.size 5 1 v10 (is ++ [m]).length (cellsByteS ((is ++ [m]).map fun (i : Nat) => (i : Int))) := by simpa [cellsByteS] using ho10
            have hc11 : w10.cell? ⟨b, off + m, none⟩ = some (.string x) := (hB10.cell (p := ⟨b, off + m, none⟩) hbl).trans HCW.out
            clear ho10 hg10 ho9 hB9 hc
            go_wp2
            go_roundw
            case rel => exact ⟨a + x.size, is ++ [m], by go_num, by omega, by simp; omega, ho11, HF2.out, hB10⟩
            case measure => simp [intOf]; omega
      obtain rfl : a = s.size := by omega
      have hG : z = some (asB (is.map fun (i : Nat) => (i : Int))) := by
        rw [HZ.out, hf.out.2, HEND.out]
        simp
      have hlt32 := hf.out.1
      subst hG
      have hso := str_own (zs := is.map fun (i : Nat) => (i : Int)) (by rw [List.length_map]; exact ho) (fun y hy => by
        obtain ⟨i, hi, rfl⟩ := List.mem_map.1 hy
        have := hlt32 i hi
        show 0 ≤ (i : Int) ∧ (i : Int) ≤ 255
        omega)
      obtain ⟨t, ht⟩ : ∃ t, t = asB (is.map fun (i : Nat) => (i : Int)) := ⟨_, rfl⟩
      have HT : Hid (asB (is.map fun (i : Nat) => (i : Int)) = t) := ht.symm
      rw [← ht] at hso
      clear ht HX HS HNE HZ HSM HEND HNONE hf ho hlt32
      have haI : ¬ (s.size : Int) < (s.size : Int) := by omega
      go_wp2
      go_ret2
      exact ⟨by rw [HT.out]; rfl, hb⟩

end Go.Proofs.Ytiflpnmkclcimab
