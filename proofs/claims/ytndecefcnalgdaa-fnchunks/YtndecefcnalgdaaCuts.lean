/- CONTRACTS: all cuts of a text: the specification's (l4Cuts, Cuts) and impl.Cuts. -/
import Derived.Test.YtndecefcnalgdaaNextI
import Derived.Laws.AppendOwn
namespace Go.Proofs.Ytndecefcnalgdaa
open Go.RowKit

/-- a text's cuts -/
def cutsN (s : ByteArray) (W : Nat) (P : Int) (L M : Nat) : List Nat := cutsAt (nextL W P L M) (byts s) 0
def cutsI (s : ByteArray) (W : Nat) (P : Int) (L M : Nat) : List Int := (cutsN s W P L M).map fun (c : Nat) => (c : Int)
/-- what Cuts tells -/
def cutsT (s : ByteArray) (W P L M : Int) : List Int := if ruleB W P L M = true ∧ s.size ≤ 20000 then cutsI s W.toNat P L.toNat M.toNat else []
theorem cutsT_ok (s : ByteArray) {W : Nat} {P : Int} {L M : Nat} (h : okRule W P L M) (hs : s.size ≤ 20000) : cutsT s W P L M = cutsI s W P L M := by
  unfold cutsT
  rw [if_pos ⟨ok_ruleB h, hs⟩]
  rfl
theorem cutsI_len (s : ByteArray) (W : Nat) (P : Int) (L M : Nat) : (cutsI s W P L M).length = (cutsN s W P L M).length := by simp [cutsI]
theorem cutsI_get (s : ByteArray) (W : Nat) (P : Int) (L M k : Nat) (h : k < (cutsN s W P L M).length) : (cutsI s W P L M).getD k 0 = ((cutsN s W P L M).getD k 0 : Int) := by
  simp [cutsI, List.getD, h]
theorem cuts_count {nx : List Int → Nat} (h : Okn nx) (bs : List Int) : ∀ a, a ≤ bs.length → (cutsAt nx bs a).length + a ≤ bs.length := by
  refine cut_induct h bs (fun a ha hl => ?_) (fun a ha ih _ => ?_)
  · rw [cutsAt_end ha]; simp; omega
  · have hn := nx_drop h ha
    have := ih hn.2
    rw [cutsAt_step h ha, List.length_cons]
    omega
/-- what the loop over the cuts wants to know at each of them -/
theorem cut_at (s : ByteArray) {W : Nat} {P : Int} {L M : Nat} (hr : okRule W P L M) (k : Nat) (hk : k ≤ (cutsN s W P L M).length) :
    ∃ a : Nat, a = (0 :: cutsN s W P L M).getD k 0 ∧ a ≤ s.size ∧ (a < s.size ↔ k < (cutsN s W P L M).length) ∧
      (k < (cutsN s W P L M).length → (cutsN s W P L M).getD k 0 = a + nextL W P L M (byts (s.extract a s.size)) ∧ (cutsN s W P L M).getD k 0 ≤ s.size ∧ a < (cutsN s W P L M).getD k 0) := by
  have hO : Okn (nextL W P L M) := okn_next (by omega) hr.2.2.2.1
  have hl := byts_len s
  refine ⟨_, rfl, ?_⟩
  unfold cutsN at hk ⊢
  have hb : ∀ a : Nat, byts (s.extract a s.size) = (byts s).drop a := fun a => by
    rw [byts_extract, List.take_of_length_le (by rw [List.length_drop, hl]; exact Nat.le_refl _)]
  by_cases hlt : k < (cutsAt (nextL W P L M) (byts s) 0).length
  · obtain ⟨h1, h2⟩ := cuts_get hO (byts s) 0 k hlt
    have h3 := nx_drop hO h1
    rw [hl] at h1 h3
    refine ⟨by omega, by simp only [hlt, h1], fun _ => ?_⟩
    rw [hb]
    omega
  · have e : k = (cutsAt (nextL W P L M) (byts s) 0).length := by omega
    have := cuts_end hO (byts s) 0 (Nat.zero_le _)
    rw [← e, hl] at this
    rw [this]
    exact ⟨Nat.le_refl _, by omega, fun h => absurd h hlt⟩
theorem map_take_succ (C : List Nat) (k : Nat) (h : k < C.length) : ((C.map fun (c : Nat) => (c : Int)).take (k + 1)) = ((C.map fun (c : Nat) => (c : Int)).take k) ++ [((C.getD k 0 : Nat) : Int)] := by
  rw [take_snoc _ 0 k (by simpa using h)]
  simp [List.getD, h]

set_option maxHeartbeats 2000000 in
set_option maxRecDepth 100000 in
theorem l4Cuts_in (s : ByteArray) (W : Nat) (P : Int) (L M : Nat) (w : World) (hs : s.size ≤ 20000) (hr : okRule W P L M) :
    Calls Try.prog 91 #[.string s, ruleV W P L M] w fun e w' => ∃ v, e = .returned v ∧ w'.ownsRow w.heap.size 2 1 v (cutsN s W P L M).length (cellsInt64S (cutsI s W P L M)) ∧ Below w.heap.size w w' := by
  obtain ⟨i0, hi, hz0, hz1, hz2⟩ := info_parts Try.info64
  have HAT : Hid (∀ k, k ≤ (cutsN s W P L M).length → ∃ a : Nat, a = (0 :: cutsN s W P L M).getD k 0 ∧ a ≤ s.size ∧ (a < s.size ↔ k < (cutsN s W P L M).length) ∧
      (k < (cutsN s W P L M).length → (cutsN s W P L M).getD k 0 = a + nextL W P L M (byts (s.extract a s.size)) ∧ (cutsN s W P L M).getD k 0 ≤ s.size ∧ a < (cutsN s W P L M).getD k 0)) := cut_at s hr
  have HCI : Hid (cutsI s W P L M = (cutsN s W P L M).map fun (c : Nat) => (c : Int)) := rfl
  have hcl : (cutsN s W P L M).length ≤ s.size := by
    have := cuts_count (okn_next (W := W) (P := P) (L := L) (M := M) (by omega) hr.2.2.2.1) (byts s) 0 (Nat.zero_le _)
    rw [byts_len] at this
    exact this
  generalize cutsI s W P L M = CI at HCI ⊢
  generalize cutsN s W P L M = C at HAT hcl HCI ⊢
  have hcI : CI.length = C.length := by rw [HCI.out, List.length_map]
  have hB := (Below.refl w.heap.size w).alloc (Nat.le_refl _) (.cells #[.int .i64 (W : Int), .int .i64 P, .int .i64 (L : Int), .int .i64 (M : Int)] 56)
  have hbx := heap_alloc_new w (.cells #[.int .i64 (W : Int), .int .i64 P, .int .i64 (L : Int), .int .i64 (M : Int)] 56)
  have hlt0 : w.heap.size < (w.alloc (.cells #[.int .i64 (W : Int), .int .i64 P, .int .i64 (L : Int), .int .i64 (M : Int)] 56)).heap.size := by simp
  go_enter Try.func91, Try.ntmps91
  go_wp2
  generalize hw1 : w.alloc (.cells #[.int .i64 (W : Int), .int .i64 P, .int .i64 (L : Int), .int .i64 (M : Int)] 56) = w1 at hB hbx hlt0 ⊢
  have hs1 : w1.heap.size = w.heap.size + 1 := by rw [← hw1]; simp
  clear hw1
  rw [← hs1]
  clear hs1
  go_loopw [5, 6] (fun v i wr => ∃ k a : Nat, k ≤ C.length ∧ i = .int .i64 a ∧ a = (0 :: C).getD k 0 ∧ wr.ownsRow w1.heap.size 2 1 v k (cellsInt64S (CI.take k)) ∧ Below w1.heap.size w1 wr) (fun _ i _ => s.size - (intOf i).toNat)
  case atStart => exact ⟨0, 0, Nat.zero_le _, rfl, rfl, World.ownsRow_lit w1 #[] 0 (Nat.le_refl _) (Nat.zero_le _) rfl, (Below.refl _ _).alloc (Nat.le_refl _) _⟩
  case round =>
    obtain ⟨k, a, hk, rfl, ha, ho, hb⟩ := hrel
    obtain ⟨a', ha', ha1, ha2, ha3⟩ := HAT.out k hk
    obtain rfl : a = a' := by rw [ha, ha']
    by_cases hlt : a < s.size
    focus
      obtain ⟨hc1, hc2, hc3⟩ := ha3 (ha2.1 hlt)
      have hkc := ha2.1 hlt
      have hrd := rule_cells (hb.block w.heap.size hlt0) hbx
      obtain ⟨d0, d1, d2, d3⟩ := hrd
      have hbl := hb.block w.heap.size hlt0
      have hsz := hb.size
      have hsl : ∀ W' : World, (Instr.slice 9 (.string s) (some (.int .i64 (a : Int))) none none).run Try.prog W' = .ok (.string (s.extract a s.size)) W' := fun W' => by
        rw [run_slice_string_l W' 9 s Try.underlying9 .i64 _ (by omega) (by omega), Int.toNat_natCast]
      have hts : (s.extract a s.size).size ≤ 9223372036854775807 := by rw [ByteArray.size_extract]; omega
      have HNX := fun w' => l4Next_in (s.extract a s.size) W P L M w' hts hr
      have HE : ((a : Int) + (nextL W P L M (byts (s.extract a s.size)) : Int)) = ((C.getD k 0 : Nat) : Int) := by omega
      have HM := map_take_succ C k hkc
      rw [← HCI.out] at HM
      have hkk : C.getD k 0 = (0 :: C).getD (k + 1) 0 := by simp
      obtain ⟨n, hn⟩ : ∃ n, n = nextL W P L M (byts (s.extract a s.size)) := ⟨_, rfl⟩
      rw [← hn] at HNX HE hc1
      obtain ⟨t, ht⟩ : ∃ t, t = s.extract a s.size := ⟨_, rfl⟩
      rw [← ht] at hsl hts HNX
      obtain ⟨c, hc⟩ : ∃ c, c = C.getD k 0 := ⟨_, rfl⟩
      rw [← hc] at HE hc1 hc2 hc3 HM hkk
      have HM2 : Hid (CI.take (k + 1) = CI.take k ++ [(c : Int)]) := HM
      have hrl : (CI.take k).length = k := by rw [List.length_take]; omega
      have HKK : Hid (c = (0 :: C).getD (k + 1) 0) := hkk
      obtain ⟨acc, hacc⟩ : ∃ acc, acc = CI.take k := ⟨_, rfl⟩
      rw [← hacc] at ho HM2 hrl
      clear hn ht hc hacc HM hkk ha ha' ha1 ha2 ha3 hbl hc1
      go_wp2
      go_region_with (go_at_call 92; refine (HNX _).mono ?_; rintro e w2 ⟨rfl, hb2⟩)
      all_goals
        have hb2' : Below w1.heap.size w1 w2 := hb.drew.trans (hb2.mono hsz)
        have ho2 := owns_below ho (show Below wr.heap.size wr w2 from (Below.refl _ wr).drew.trans hb2)
        clear d0 d1 d2 d3 ho hb hb2
        have hsz2 : w1.heap.size ≤ w2.heap.size := hb2'.size
        go_wp2_with (at_builtin; refine wpList_append_own _ rfl _ _ 29 rfl w1.heap.size 2 i0 (.int .i64 0) 1 8 Try.underlying29 hi hz0 hz1 hz2 rfl (by decide) _ _ _ rfl (ho2.alloc _) ⟨w2.heap.size, 0, none⟩ 1 1 [.int .i64 (c : Int)] rfl rfl ?c1 ?c2 ?c3 ?c4 ?c5 ?_)
        case c1 => exact one_cell w2 .i64 _ _
        case c2 => exact ints_oneCell .i64 [(c : Int)]
        case c3 => unfold maxLen; omega
        case c4 => omega
        case c5 => simp; omega
        intro v3 w3 ho3 hg3 _
        have hb3 : Below w1.heap.size w1 w3 := (hb2'.alloc (by omega) _).grown hg3 (by simp; omega) (fun k hk => (ho2.lt k hk).1)
        have ho4 : w3.ownsRow w1.heap.size 2 1 v3 (k + 1) (cellsInt64S (CI.take (k + 1))) := by rw [HM2.out]; simpa [cellsInt64S] using ho3
        clear ho3 hg3 ho2 hb2'
        go_wp2
        go_roundw
        case rel =>
          exact ⟨k + 1, c, by omega, rfl, HKK.out, ho4, hb3⟩
        case measure => simp [intOf]; omega
    have hkC : k = C.length := by
      rcases Nat.lt_or_ge k C.length with h | h
      · exact absurd (ha2.2 h) hlt
      · omega
    subst hkC
    rw [List.take_of_length_le (Nat.le_of_eq hcI)] at ho
    have ho5 := owns_base ho (Nat.le_of_lt hlt0)
    have hb5 : Below w.heap.size w wr := hB.trans (hb.mono (Nat.le_of_lt hlt0))
    have hlt2 : ¬ (a : Int) < (s.size : Int) := by omega
    clear ho hb ha2 ha3 ha ha' HAT
    go_wp2
    go_ret
    exact ⟨_, rfl, ho5, hb5⟩

set_option maxHeartbeats 1000000 in
set_option maxRecDepth 100000 in
theorem specCuts_any (s : ByteArray) (W P L M : Int) (w : World) (hs : s.size ≤ 9223372036854775807) :
    Calls Try.prog 55 #[.string s, ruleV W P L M] w fun e w' => ∃ v, e = .returned v ∧ w'.ownsRow w.heap.size 2 1 v (cutsT s W P L M).length (cellsInt64S (cutsT s W P L M)) ∧ Below w.heap.size w w' := by
  have hB : Below w.heap.size w (w.alloc (.cells #[.int .i64 W, .int .i64 P, .int .i64 L, .int .i64 M] 56)) := (Below.refl _ _).alloc (Nat.le_refl _) _
  have hbx := heap_alloc_new w (.cells #[.int .i64 W, .int .i64 P, .int .i64 L, .int .i64 M] 56)
  cases hr : ruleB W P L M with
  | false =>
    have e : cutsT s W P L M = [] := by unfold cutsT; rw [hr, if_neg (fun h => Bool.false_ne_true h.1)]
    rw [e]
    clear e
    go_enter Try.func55, Try.ntmps55
    go_wp2_with fail
    refine (specRuleOk_any _ _ _ _ _).mono ?_
    rintro e w1 ⟨rfl, hb1⟩
    rw [hr]
    have hB1 := hB.trans (hb1.mono (by simp))
    clear hbx hb1 hB
    go_wp2
    go_ret
    exact ⟨_, rfl, World.ownsRow_lit w1 #[] 0 hB1.size (Nat.zero_le _) rfl, hB1.alloc hB1.size _⟩
  | true =>
    by_cases hbig : 20000 < (s.size : Int)
    · have e : cutsT s W P L M = [] := by unfold cutsT; rw [if_neg (by omega)]
      rw [e]
      clear e
      go_enter Try.func55, Try.ntmps55
      go_wp2_with fail
      refine (specRuleOk_any _ _ _ _ _).mono ?_
      rintro e w1 ⟨rfl, hb1⟩
      rw [hr]
      have hB1 := hB.trans (hb1.mono (by simp))
      clear hbx hb1 hB
      go_wp2
      go_ret
      exact ⟨_, rfl, World.ownsRow_lit w1 #[] 0 hB1.size (Nat.zero_le _) rfl, hB1.alloc hB1.size _⟩
    · obtain ⟨W, L, M, rfl, rfl, rfl, hok⟩ := ruleB_ok hr
      rw [cutsT_ok s hok (by omega)]
      have hcl := cutsI_len s W P L M
      rw [hcl]
      go_enter Try.func55, Try.ntmps55
      go_wp2_with fail
      refine (specRuleOk_any _ _ _ _ _).mono ?_
      rintro e w1 ⟨rfl, hb1⟩
      rw [hr]
      obtain ⟨d0, d1, d2, d3⟩ := rule_cells (hb1.block w.heap.size (by simp)) hbx
      have hB1 := hB.trans (hb1.mono (by simp))
      clear hbx hb1 hB
      go_wp2_with fail
      refine (l4Cuts_in s W P L M _ (by omega) hok).mono ?_
      rintro e w2 ⟨v, rfl, ho, hb2⟩
      have hB2 := hB1.trans (hb2.mono hB1.size)
      have ho2 := owns_base ho hB1.size
      go_wp2
      go_ret
      exact ⟨_, rfl, ho2, hB2⟩

set_option maxHeartbeats 2000000 in
set_option maxRecDepth 100000 in
theorem implCuts_in (s : ByteArray) (W : Nat) (P : Int) (L M : Nat) (w : World) (hs : s.size ≤ 20000) (hr : okRule W P L M) :
    Calls Try.prog 52 #[.string s, ruleV W P L M] w fun e w' => ∃ v, e = .returned v ∧ w'.ownsRow w.heap.size 2 1 v (cutsN s W P L M).length (cellsInt64S (cutsI s W P L M)) ∧ Below w.heap.size w w' := by
  obtain ⟨i0, hi, hz0, hz1, hz2⟩ := info_parts Try.info64
  have HAT : Hid (∀ k, k ≤ (cutsN s W P L M).length → ∃ a : Nat, a = (0 :: cutsN s W P L M).getD k 0 ∧ a ≤ s.size ∧ (a < s.size ↔ k < (cutsN s W P L M).length) ∧
      (k < (cutsN s W P L M).length → (cutsN s W P L M).getD k 0 = a + nextL W P L M (byts (s.extract a s.size)) ∧ (cutsN s W P L M).getD k 0 ≤ s.size ∧ a < (cutsN s W P L M).getD k 0)) := cut_at s hr
  have HCI : Hid (cutsI s W P L M = (cutsN s W P L M).map fun (c : Nat) => (c : Int)) := rfl
  have hcl : (cutsN s W P L M).length ≤ s.size := by
    have := cuts_count (okn_next (W := W) (P := P) (L := L) (M := M) (by omega) hr.2.2.2.1) (byts s) 0 (Nat.zero_le _)
    rw [byts_len] at this
    exact this
  generalize cutsI s W P L M = CI at HCI ⊢
  generalize cutsN s W P L M = C at HAT hcl HCI ⊢
  have hcI : CI.length = C.length := by rw [HCI.out, List.length_map]
  have hrB := ok_ruleB hr
  have hB0 := (Below.refl w.heap.size w).alloc (Nat.le_refl _) (.cells #[.int .i64 (W : Int), .int .i64 P, .int .i64 (L : Int), .int .i64 (M : Int)] 56)
  have hbx0 := heap_alloc_new w (.cells #[.int .i64 (W : Int), .int .i64 P, .int .i64 (L : Int), .int .i64 (M : Int)] 56)
  go_enter Try.func52, Try.ntmps52
  go_wp2_with fail
  refine (implRuleOk_any _ _ _ _ _).mono ?_
  rintro e w1 ⟨rfl, hb1⟩
  rw [hrB]
  have hbx := (hb1.block w.heap.size (by simp)).trans hbx0
  have hB := hB0.trans (hb1.mono (by simp))
  have hlt0 : w.heap.size < w1.heap.size := by have := hb1.size; simp at this; omega
  clear hB0 hbx0 hb1
  go_wp2
  go_loopw [5, 6] (fun v i wr => ∃ k a : Nat, k ≤ C.length ∧ i = .int .i64 a ∧ a = (0 :: C).getD k 0 ∧ wr.ownsRow w1.heap.size 2 1 v k (cellsInt64S (CI.take k)) ∧ Below w1.heap.size w1 wr) (fun _ i _ => s.size - (intOf i).toNat)
  case atStart => exact ⟨0, 0, Nat.zero_le _, rfl, rfl, World.ownsRow_nil _ _ _ _, Below.refl _ _⟩
  case round =>
    obtain ⟨k, a, hk, rfl, ha, ho, hb⟩ := hrel
    obtain ⟨a', ha', ha1, ha2, ha3⟩ := HAT.out k hk
    obtain rfl : a = a' := by rw [ha, ha']
    by_cases hlt : a < s.size
    focus
      obtain ⟨hc1, hc2, hc3⟩ := ha3 (ha2.1 hlt)
      have hkc := ha2.1 hlt
      have hrd := rule_cells (hb.block w.heap.size hlt0) hbx
      obtain ⟨d0, d1, d2, d3⟩ := hrd
      have hbl := hb.block w.heap.size hlt0
      have hsz := hb.size
      have hsl : ∀ W' : World, (Instr.slice 9 (.string s) (some (.int .i64 (a : Int))) none none).run Try.prog W' = .ok (.string (s.extract a s.size)) W' := fun W' => by
        rw [run_slice_string_l W' 9 s Try.underlying9 .i64 _ (by omega) (by omega), Int.toNat_natCast]
      have hts : (s.extract a s.size).size ≤ 9223372036854775807 := by rw [ByteArray.size_extract]; omega
      have HNX := fun w' => implNext_any (s.extract a s.size) W P L M w' hts
      rw [nextT_ok _ hr] at HNX
      have HE : ((a : Int) + (nextL W P L M (byts (s.extract a s.size)) : Int)) = ((C.getD k 0 : Nat) : Int) := by omega
      have HM := map_take_succ C k hkc
      rw [← HCI.out] at HM
      have hkk : C.getD k 0 = (0 :: C).getD (k + 1) 0 := by simp
      obtain ⟨n, hn⟩ : ∃ n, n = nextL W P L M (byts (s.extract a s.size)) := ⟨_, rfl⟩
      rw [← hn] at HNX HE hc1
      obtain ⟨t, ht⟩ : ∃ t, t = s.extract a s.size := ⟨_, rfl⟩
      rw [← ht] at hsl hts HNX
      obtain ⟨c, hc⟩ : ∃ c, c = C.getD k 0 := ⟨_, rfl⟩
      rw [← hc] at HE hc1 hc2 hc3 HM hkk
      have HM2 : Hid (CI.take (k + 1) = CI.take k ++ [(c : Int)]) := HM
      have hrl : (CI.take k).length = k := by rw [List.length_take]; omega
      have HKK : Hid (c = (0 :: C).getD (k + 1) 0) := hkk
      obtain ⟨acc, hacc⟩ : ∃ acc, acc = CI.take k := ⟨_, rfl⟩
      rw [← hacc] at ho HM2 hrl
      clear hn ht hc hacc HM hkk ha ha' ha1 ha2 ha3 hbl hc1
      go_wp2
      go_region_with (go_at_call 56; refine (HNX _).mono ?_; rintro e w2 ⟨rfl, hb2⟩)
      all_goals
        have hb2' : Below w1.heap.size w1 w2 := hb.drew.trans (hb2.mono hsz)
        have ho2 := owns_below ho (show Below wr.heap.size wr w2 from (Below.refl _ wr).drew.trans hb2)
        clear d0 d1 d2 d3 ho hb hb2
        have hsz2 : w1.heap.size ≤ w2.heap.size := hb2'.size
        go_wp2_with (at_builtin; refine wpList_append_own _ rfl _ _ 29 rfl w1.heap.size 2 i0 (.int .i64 0) 1 8 Try.underlying29 hi hz0 hz1 hz2 rfl (by decide) _ _ _ rfl (ho2.alloc _) ⟨w2.heap.size, 0, none⟩ 1 1 [.int .i64 (c : Int)] rfl rfl ?c1 ?c2 ?c3 ?c4 ?c5 ?_)
        case c1 => exact one_cell w2 .i64 _ _
        case c2 => exact ints_oneCell .i64 [(c : Int)]
        case c3 => unfold maxLen; omega
        case c4 => omega
        case c5 => simp; omega
        intro v3 w3 ho3 hg3 _
        have hb3 : Below w1.heap.size w1 w3 := (hb2'.alloc (by omega) _).grown hg3 (by simp; omega) (fun k hk => (ho2.lt k hk).1)
        have ho4 : w3.ownsRow w1.heap.size 2 1 v3 (k + 1) (cellsInt64S (CI.take (k + 1))) := by rw [HM2.out]; simpa [cellsInt64S] using ho3
        clear ho3 hg3 ho2 hb2'
        go_wp2
        go_roundw
        case rel =>
          exact ⟨k + 1, c, by omega, rfl, HKK.out, ho4, hb3⟩
        case measure => simp [intOf]; omega
    have hkC : k = C.length := by
      rcases Nat.lt_or_ge k C.length with h | h
      · exact absurd (ha2.2 h) hlt
      · omega
    subst hkC
    rw [List.take_of_length_le (Nat.le_of_eq hcI)] at ho
    have ho5 := owns_base ho (Nat.le_of_lt hlt0)
    have hb5 : Below w.heap.size w wr := hB.trans (hb.mono (Nat.le_of_lt hlt0))
    have hlt2 : ¬ (a : Int) < (s.size : Int) := by omega
    clear ho hb ha2 ha3 ha ha' HAT
    go_wp2
    go_ret
    exact ⟨_, rfl, ho5, hb5⟩
theorem implCuts_any (s : ByteArray) (W P L M : Int) (w : World) (hs : s.size ≤ 9223372036854775807) :
    Calls Try.prog 52 #[.string s, ruleV W P L M] w fun e w' => ∃ v, e = .returned v ∧ w'.ownsRow w.heap.size 2 1 v (cutsT s W P L M).length (cellsInt64S (cutsT s W P L M)) ∧ Below w.heap.size w w' := by
  have hB : Below w.heap.size w (w.alloc (.cells #[.int .i64 W, .int .i64 P, .int .i64 L, .int .i64 M] 56)) := (Below.refl _ _).alloc (Nat.le_refl _) _
  cases hr : ruleB W P L M with
  | false =>
    have e : cutsT s W P L M = [] := by unfold cutsT; rw [hr, if_neg (fun h => Bool.false_ne_true h.1)]
    rw [e]
    clear e
    go_enter Try.func52, Try.ntmps52
    go_wp2_with fail
    refine (implRuleOk_any _ _ _ _ _).mono ?_
    rintro e w1 ⟨rfl, hb1⟩
    rw [hr]
    have hB1 := hB.trans (hb1.mono (by simp))
    clear hb1 hB
    go_wp2
    go_ret
    exact ⟨_, rfl, World.ownsRow_nil _ _ _ _, hB1⟩
  | true =>
    by_cases hbig : 20000 < (s.size : Int)
    · have e : cutsT s W P L M = [] := by unfold cutsT; rw [if_neg (by omega)]
      rw [e]
      clear e
      go_enter Try.func52, Try.ntmps52
      go_wp2_with fail
      refine (implRuleOk_any _ _ _ _ _).mono ?_
      rintro e w1 ⟨rfl, hb1⟩
      rw [hr]
      have hB1 := hB.trans (hb1.mono (by simp))
      clear hb1 hB
      go_wp2
      go_ret
      exact ⟨_, rfl, World.ownsRow_nil _ _ _ _, hB1⟩
    · obtain ⟨W, L, M, rfl, rfl, rfl, hok⟩ := ruleB_ok hr
      rw [cutsT_ok s hok (by omega), cutsI_len]
      exact implCuts_in s W P L M w (by omega) hok

end Go.Proofs.Ytndecefcnalgdaa
