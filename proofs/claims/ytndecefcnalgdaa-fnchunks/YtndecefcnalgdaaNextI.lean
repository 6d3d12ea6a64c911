/- CONTRACT: impl.Next: where a text is cut first, gone through by the windows' iterator, which the body leaves by a return. -/
import Derived.Test.YtndecefcnalgdaaWindows
import Derived.Test.YtndecefcnalgdaaNext
namespace Go.Proofs.Ytndecefcnalgdaa
open Go.RowKit Go.Shelf

attribute [local go_sem] Oper.semAt_some

/-- a piece of code that neither panics nor jumps -/
theorem wpIn_still {G : Fence} {n : Nat} {P : Program} {c : Code} {K : Act → World → Prop} {Q : Exit → Act → World → Prop} {a : Act} {w : World} (h : c.wpIn G n P (Exit.then K (fun _ _ _ => False)) a w) : c.wpIn G n P (Exit.then K Q) a w :=
  wpIn_mono h (fun e _ _ h => by cases e <;> first | exact h | exact False.elim h)

theorem Exit.then_normal (K : Act → World → Prop) (Q : Exit → Act → World → Prop) (a : Act) (w : World) : Exit.then K Q .normal a w = K a w := rfl

theorem cells_own {β : Type} (b : Nat) (cs : Array Value) (t : TypeId) (fr : Nat × Nat) : Own (fun (_ : β) W => W.heap[b]? = some (.cells cs t fr)) := fun s X Y row hs hg hrow =>
  (hg.block b (Array.getElem?_eq_some_iff.1 hs).1 (fun e' => by obtain ⟨o, ho, hc⟩ := hrow b e'.symm; rw [hs] at ho; cases ho; cases hc)).trans hs

theorem win_hit (s : ByteArray) (W : Nat) (P : Int) (L E k : Nat) (hW : W ≤ L) (h1 : L ≤ E) (hk : k ≤ E - L) : hit (byts s) W P (L + k) ↔ wroll (s.extract (L - W) E) W k % P = 0 := by
  unfold hit wroll
  rw [byts_extract, List.drop_take, List.take_take, List.drop_drop, show min W (E - (L - W) - k) = W by omega, show L - W + k = L + k - W by omega]

set_option maxHeartbeats 4000000 in
set_option maxRecDepth 100000 in
theorem implNext_in (s : ByteArray) (W : Nat) (P : Int) (L M : Nat) (w : World) (hs : s.size ≤ 9223372036854775807) (hr : okRule W P L M) (hl1 : L + 1 ≤ M) (hl2 : L ≤ s.size) :
    Calls Try.prog 56 #[.string s, ruleV W P L M] w fun e w' => e = .returned (.int .i64 (nextL W P L M (byts s))) ∧ Below w.heap.size w w' := by
  have hrB := ok_ruleB hr
  obtain ⟨⟨hW1, hW2⟩, ⟨hP1, hP2⟩, ⟨hL1, hL2⟩, hM1, hM2⟩ := hr
  have hP0 : (P == 0) = false := beq_eq_false_iff_ne.2 (by omega)
  refine (callsIn_wide (n := 4)).1 ?_
  refine callsIn_of_wp_marks Try.func56 rfl trivial ?_ rfl
  simp only [Try.ntmps56, List.size_toArray, List.length_cons, List.length_nil, Nat.reduceAdd, Nat.reduceSub, Array.replicate_succ, Array.replicate_zero, List.push_toArray, List.append_toArray, List.nil_append, List.cons_append]
  gi_wp2_with fail
  refine ⟨trivial, ?_⟩
  refine (callsIn_wide.2 (implRuleOk_any _ _ _ _ _)).mono ?_
  rintro e w1 ⟨rfl, hb1⟩
  rw [hrB]
  have hbx0 := (Below.heap_alloc (w.alloc (.cells #[.int .i64 (W : Int), .int .i64 P, .int .i64 (L : Int), .int .i64 (M : Int)] 56)) (.cells #[.int .i64 0] 2) w.heap.size (by simp)).trans (heap_alloc_new w _)
  have hbx := (hb1.block w.heap.size (by simp; omega)).trans hbx0
  obtain ⟨d0, d1, d2, d3⟩ := rule_cells rfl hbx
  have hbr : Boxed w1 (w.heap.size + 1) 2 (.int .i64 0) := by
    have h := heap_alloc_new (w.alloc (.cells #[.int .i64 (W : Int), .int .i64 P, .int .i64 (L : Int), .int .i64 (M : Int)] 56)) (.cells #[.int .i64 0] 2)
    rw [World.size_alloc] at h
    exact (hb1.block (w.heap.size + 1) (by simp)).trans h
  have hB1 : Below w.heap.size w w1 := (((Below.refl _ _).alloc (Nat.le_refl _) _).alloc (by simp) _).trans (hb1.mono (by simp; omega))
  have hs1 : w.heap.size + 2 ≤ w1.heap.size := by have := hb1.size; simp at this; omega
  clear hbx0 hb1
  have HRL : Hid (∀ E : Nat, L ≤ E → ∀ k, k ≤ E - L → (hit (byts s) W P (L + k) ↔ wroll (s.extract (L - W) E) W k % P = 0)) := fun E h1 k hk => win_hit s W P L E k hL1 h1 hk
  have hE : ∃ E : Nat, L ≤ E ∧ E ≤ s.size ∧ E < M ∧ (M - 1 ≤ E ∨ s.size ≤ E) := ⟨min (M - 1) s.size, by omega, by omega, by omega, by omega⟩
  obtain ⟨E, hE1, hE2, hE3, hE4⟩ := hE
  have HNX : Hid ((∀ k, k < E - L + 1 → ¬ hit (byts s) W P (L + k)) → nextL W P L M (byts s) = min M s.size) := fun h => by
    have hbl := byts_len s
    rw [nextL_none (fun j a b c => by have := h (j - L) (by omega); rwa [show L + (j - L) = j by omega] at this), hbl]
  have HNH : Hid (∀ k, k < E - L + 1 → hit (byts s) W P (L + k) → (∀ j, j < k → ¬ hit (byts s) W P (L + j)) → nextL W P L M (byts s) = L + k) := fun k h1 h2 h3 => by
    have hbl := byts_len s
    exact nextL_hit (by omega) (by omega) (by omega) h2 (fun j a b => by have := h3 (j - L) (by omega); rwa [show L + (j - L) = j by omega] at this)
  have hsl : ∀ W' : World, (Instr.slice 9 (.string s) (some (.int .i64 ((L : Int) - (W : Int)))) (some (.int .i64 (E : Int))) none).run Try.prog W' = .ok (.string (s.extract (L - W) E)) W' := fun W' => by
    rw [run_slice_string _ 9 s .i64 .i64 _ _ Try.underlying9 (by omega) (by omega) (by omega)]
    rw [show ((L : Int) - (W : Int)).toNat = L - W by omega, show ((E : Int)).toNat = E by omega]
  have hts : (s.extract (L - W) E).size = E - (L - W) := by rw [ByteArray.size_extract]; omega
  have HRL2 := HRL.out E hE1
  obtain ⟨t, ht⟩ : ∃ t, t = s.extract (L - W) E := ⟨_, rfl⟩
  rw [← ht] at hsl hts HRL2
  have HH : Hid (∀ k, k ≤ E - L → (hit (byts s) W P (L + k) ↔ wroll t W k % P = 0)) := HRL2
  clear ht HRL HRL2
  have hmn : (if (s.size : Int) < (M : Int) - 1 then (s.size : Int) else (M : Int) - 1) = (E : Int) := by split <;> omega
  gi_wp2
  have hbx2 : (w1.alloc (.cells #[.int .i64 (L : Int)] 2)).heap[w.heap.size]? = some (.cells #[.int .i64 (W : Int), .int .i64 P, .int .i64 (L : Int), .int .i64 (M : Int)] 56) := (Below.heap_alloc _ _ _ (by omega)).trans hbx
  have hbr2 := hbr.alloc (.cells #[.int .i64 (L : Int)] 2)
  have hbn2 := Boxed.new w1 2 (.int .i64 (L : Int))
  have hB2 := hB1.alloc hB1.size (.cells #[.int .i64 (L : Int)] 2)
  have hs2 : w1.heap.size < (w1.alloc (.cells #[.int .i64 (L : Int)] 2)).heap.size := by simp
  obtain ⟨bn, hbn⟩ : ∃ bn, bn = w1.heap.size := ⟨_, rfl⟩
  rw [← hbn] at hs1 hs2 hbn2 ⊢
  obtain ⟨w2, hw2⟩ : ∃ w2, w2 = w1.alloc (.cells #[.int .i64 (L : Int)] 2) := ⟨_, rfl⟩
  rw [← hw2] at hs2 hbn2 hbx2 hbr2 hB2 ⊢
  clear hw2 hbn hbx hbr hB1 d0 d1 d2 d3 w1
  obtain ⟨d0, d1, d2, d3⟩ := rule_cells rfl hbx2
  have e0 : w2.drew.cell? ⟨w.heap.size, 0, none⟩ = some (.int .i64 (W : Int)) := d0
  have e2 : w2.drew.cell? ⟨w.heap.size, 2, none⟩ = some (.int .i64 (L : Int)) := d2
  have hwm : IntKind.i64.wrap ((L : Int) - (W : Int)) = (L : Int) - (W : Int) := by rw [IntKind.wrap_i64]; omega
  refine wpIn_still ?_
  refine wpIn_wide.2 ?_
  go_region_held (fun W' : World => W'.cell? ⟨w.heap.size, 0, none⟩ = some (.int .i64 (W : Int)) ∧ W'.cell? ⟨w.heap.size, 2, none⟩ = some (.int .i64 (L : Int))) (first | exact ⟨e0, e2⟩ | go_keep)
    (first | (go_at_call 82; refine (windows_in t (W : Int) _).mono ?_; rintro e w3 ⟨rfl, hw3⟩; replace hw3 := hw3.symm; subst hw3))
  rw [Exit.then_normal]
  gi_wp2
  have bS : Boxed ((w2.alloc (.cells #[.string t] 9)).alloc (.cells #[.int .i64 (W : Int)] 2)).drew w2.heap.size 9 (.string t) := (Boxed.new w2 9 (.string t)).alloc _
  have bN : Boxed ((w2.alloc (.cells #[.string t] 9)).alloc (.cells #[.int .i64 (W : Int)] 2)).drew (w2.heap.size + 1) 2 (.int .i64 (W : Int)) := by
    have h := Boxed.new (w2.alloc (.cells #[.string t] 9)) 2 (.int .i64 (W : Int))
    rw [World.size_alloc] at h
    exact h
  have hbx3 : ((w2.alloc (.cells #[.string t] 9)).alloc (.cells #[.int .i64 (W : Int)] 2)).drew.heap[w.heap.size]? = some (.cells #[.int .i64 (W : Int), .int .i64 P, .int .i64 (L : Int), .int .i64 (M : Int)] 56) := (Below.heap_alloc _ _ _ (by simp; omega)).trans ((Below.heap_alloc _ _ _ (by omega)).trans hbx2)
  have hbr3 : Boxed ((w2.alloc (.cells #[.string t] 9)).alloc (.cells #[.int .i64 (W : Int)] 2)).drew (w.heap.size + 1) 2 (.int .i64 0) := (hbr2.alloc _).alloc _
  have hbn3 : Boxed ((w2.alloc (.cells #[.string t] 9)).alloc (.cells #[.int .i64 (W : Int)] 2)).drew bn 2 (.int .i64 (L : Int)) := (hbn2.alloc _).alloc _
  have hB3 : Below w.heap.size w ((w2.alloc (.cells #[.string t] 9)).alloc (.cells #[.int .i64 (W : Int)] 2)).drew := ((hB2.alloc hB2.size _).alloc (by have := hB2.size; simp; omega) _).drew
  have hs3 : ((w2.alloc (.cells #[.string t] 9)).alloc (.cells #[.int .i64 (W : Int)] 2)).drew.heap.size = w2.heap.size + 2 := by show ((w2.alloc (.cells #[.string t] 9)).alloc (.cells #[.int .i64 (W : Int)] 2)).heap.size = _; simp
  clear hbx2 hbr2 hbn2 hB2 d0 d1 d2 d3 e0 e2 hsl hwm
  generalize ((w2.alloc (.cells #[.string t] 9)).alloc (.cells #[.int .i64 (W : Int)] 2)).drew = w3 at bS bN hbx3 hbr3 hbn3 hB3 hs3 ⊢
  generalize w2.heap.size = k2 at bS bN hs2 hs3 ⊢
  refine wpIn_rangeFunc_ownG rfl (by omega) (gf := 95) (lb := #[.pointer (some ⟨k2, 0, none⟩), .pointer (some ⟨k2 + 1, 0, none⟩)]) rfl trivial (enters_of Try.func95 (by kernel_rfl) rfl)
    (windows_stops 3 (by omega) k2 (k2 + 1) (w.heap.size + 1) bn W t hW1 hW2 (by omega) (by omega) w3 (by omega) (by omega) (by omega) (by omega) (by omega) (by omega) bS bN) (fun h k => h.trans k) (fun W l o o' _ h hc _ => keepC_put _ _ W l o o' h hc) (Below.refl _ _) (fun _ => rfl)
    (fun pre W' => Boxed W' bn 2 (.int .i64 ((L : Int) + (pre.length : Int))) ∧ Boxed W' (w.heap.size + 1) 2 (.int .i64 0) ∧ W'.heap[w.heap.size]? = some (.cells #[.int .i64 (W : Int), .int .i64 P, .int .i64 (L : Int), .int .i64 (M : Int)] 56) ∧ (∀ x ∈ pre, ¬ x.tmod P = 0) ∧ Below w.heap.size w W')
    (fun c pre W' => (c = .ret ∧ ∃ q x, pre = q ++ [x] ∧ (∀ y ∈ q, ¬ y.tmod P = 0) ∧ x.tmod P = 0) ∧ Boxed W' (w.heap.size + 1) 2 (.int .i64 ((L : Int) + (pre.length : Int) - 1)) ∧ Below w.heap.size w W')
    (OwnFrom.and (Own.from (boxed_own bn 2 (fun pre : List Int => .int .i64 ((L : Int) + (pre.length : Int)))) _) (OwnFrom.and (Own.from (boxed_own _ 2 (fun _ => .int .i64 0)) _) (OwnFrom.and (Own.from (cells_own _ _ _ _) _) (OwnFrom.and (ownFrom_pure _ _) (ownFrom_below (Nat.le_refl _) (by omega))))))
    (fun c => OwnFrom.and (ownFrom_pure _ _) (OwnFrom.and (Own.from (boxed_own _ 2 (fun pre : List Int => .int .i64 ((L : Int) + (pre.length : Int) - 1))) _) (ownFrom_below (Nat.le_refl _) (by omega))))
    ⟨by simpa using hbn3, hbr3, hbx3, fun x hx => (by cases hx), hB3⟩
    (fun x => { tmps := #[.string s, ruleV W P L M, undef, .pointer (some ⟨w.heap.size, 0, none⟩), .pointer (some ⟨w.heap.size + 1, 0, none⟩), .int .i64 (s.size : Int), .int .i64 (E : Int), .pointer (some ⟨bn, 0, none⟩), .int .i64 x,
      ruleV W P L M, .bool true, .bool false, .string s, .int .i64 (s.size : Int), .pointer (some ⟨w.heap.size, 3, none⟩), .int .i64 (M : Int), .int .i64 ((M : Int) - 1), .int .i64 (s.size : Int), .int .i64 (E : Int), .int .i64 (E : Int),
      .pointer (some ⟨w.heap.size, 2, none⟩), .int .i64 (L : Int), .bool true, .pointer (some ⟨w.heap.size, 2, none⟩), .int .i64 (L : Int), .string s, .pointer (some ⟨w.heap.size, 2, none⟩), .int .i64 (L : Int), .pointer (some ⟨w.heap.size, 0, none⟩), .int .i64 (W : Int),
      .int .i64 ((L : Int) - (W : Int)), .int .i64 (E : Int), .string t, .pointer (some ⟨w.heap.size, 0, none⟩), .int .i64 (W : Int),
      .func (.func 95) #[] #[.pointer (some ⟨k2, 0, none⟩), .pointer (some ⟨k2 + 1, 0, none⟩)], .int .i64 x, undef, undef, undef, undef, undef, undef, undef, undef, undef, undef, undef, undef], defers := [] }) ?assign ?body ?done ?stop
  case assign =>
    intro l x W K hK
    gi_wp2
    exact hK
  case body =>
    rintro l pre x W' ⟨hn, hr, hx, hq, hB⟩ hlt
    obtain ⟨d0, d1, d2, d3⟩ := rule_cells rfl hx
    have cn := hn.cell
    have cr := hr.cell
    have fn := hn.frozen
    have fr := hr.frozen
    have hlp : pre.length < 1001 := by omega
    clear HNX HNH HH
    by_cases hm : x.tmod P = 0
    · gi_wp2
      refine ⟨(KeepsOthers.setCell _ _ _).from _, ⟨rfl, pre, x, rfl, hq, hm⟩, ?_, hB.setCell (p := ⟨w.heap.size + 1, 0, none⟩) (Nat.le_succ _) _⟩
      rw [show (L : Int) + ((pre ++ [x]).length : Int) - 1 = (L : Int) + (pre.length : Int) by rw [List.length_append, List.length_singleton]; omega]
      exact hr.set _
    · gi_wp2
      refine ⟨(KeepsOthers.setCell _ _ _).from _, keepC_grown (World.grownBy.refl _ _) (grownBy_setCell' _ bn _), ?_, hr.other (by omega) _, (Below.heap_setCell W' ⟨bn, 0, none⟩ _ w.heap.size (by show ¬ w.heap.size = bn; omega)).trans hx, fun y hy => ?_, hB.setCell (p := ⟨bn, 0, none⟩) (by show w.heap.size ≤ bn; omega) _⟩
      · rw [show (L : Int) + ((pre ++ [x]).length : Int) = (L : Int) + (pre.length : Int) + 1 by rw [List.length_append, List.length_singleton]; omega]
        exact hn.set _
      · rcases List.mem_append.1 hy with h | h
        · exact hq y h
        · rw [List.mem_singleton.1 h]; exact hm
  case done =>
    rintro D ys W' hD rfl ⟨hn, hr, hx, hq, hB⟩ hK
    have HN : Hid (nextL W P L M (byts s) = min M s.size) := HNX.out fun k hk h => by
      have h1 := (HH.out k (by omega)).1 h
      have h2 := hq (wroll t W k) (List.mem_map.2 ⟨k, List.mem_range.2 (by omega), rfl⟩)
      rw [Int.tmod_eq_emod_of_nonneg (wroll_in t W k).1] at h2
      exact h2 h1
    obtain ⟨d0, d1, d2, d3⟩ := rule_cells rfl hx
    have cr := hr.cell
    have fr := hr.frozen
    clear HNX HNH HH hq hn hx
    gi_wp2
    all_goals
      have HNo := HN.out
      first
        | rw [show (s.size : Int) = (nextL W P L M (byts s) : Int) by omega]
        | rw [show (M : Int) = (nextL W P L M (byts s) : Int) by omega]
      clear HNo HN
      have hK' := (KeepsOthers.setCell W' ⟨w.heap.size + 1, 0, none⟩ (.int .i64 (nextL W P L M (byts s) : Int))).same D _ hK rfl
      have hc5 := (hr.set (.int .i64 (nextL W P L M (byts s) : Int))).kept (grownBy_putObj' _ D (.deferred none)) (fun e => by cases e; omega)
      have hc6 := hc5.cell
      have hB5 : Below w.heap.size w (W'.setCell ⟨w.heap.size + 1, 0, none⟩ (.int .i64 (nextL W P L M (byts s) : Int))) := hB.setCell (p := ⟨w.heap.size + 1, 0, none⟩) (Nat.le_succ _) _
      refine ⟨by simp, .inl ⟨_, _, rfl, run_takeDeferred hK', ?_⟩⟩
      refine ⟨.int .i64 (nextL W P L M (byts s) : Int), ?_, rfl, hB5.trans (belowK_b (w := w) (Nat.le_refl _) _ D _ _ (by omega) hK' rfl rfl)⟩
      simp [results, Try.f56, go_sem, hc6]
  case stop =>
    rintro D c pre W' hD ⟨k, hk, rfl⟩ ⟨⟨rfl, q, x, hp, hq, hx⟩, hr, hB⟩ hK
    rw [rollsN_succ] at hp
    obtain ⟨hq1, hx1⟩ := List.append_inj' hp rfl
    obtain rfl : wroll t W k = x := by simpa using hx1
    subst hq1
    have HN : Hid (nextL W P L M (byts s) = L + k) := HNH.out k (by omega) ((HH.out k (by omega)).2 (by rw [← Int.tmod_eq_emod_of_nonneg (wroll_in t W k).1]; exact hx)) fun j hj h => by
      have h1 := (HH.out j (by omega)).1 h
      have h2 := hq (wroll t W j) (List.mem_map.2 ⟨j, List.mem_range.2 hj, rfl⟩)
      rw [Int.tmod_eq_emod_of_nonneg (wroll_in t W j).1] at h2
      exact h2 h1
    rw [rollsN_len, show (L : Int) + ((k + 1 : Nat) : Int) - 1 = ((L + k : Nat) : Int) by omega, ← HN.out] at hr
    clear HNX HNH HH hq hp hx1 hx
    gi_wp2
    refine ⟨by simp, .inl ⟨_, _, rfl, run_takeDeferred hK, ?_⟩⟩
    have hc5 := (hr.kept (grownBy_putObj' _ D (.deferred none)) (fun e => by cases e; omega)).cell
    refine ⟨.int .i64 (nextL W P L M (byts s) : Int), ?_, rfl, hB.trans (belowK_b (w := w) (Nat.le_refl _) W' D _ _ (by omega) hK rfl rfl)⟩
    simp [results, Try.f56, go_sem, hc5]
set_option maxRecDepth 100000 in
theorem implNext_any (s : ByteArray) (W P L M : Int) (w : World) (hs : s.size ≤ 9223372036854775807) :
    Calls Try.prog 56 #[.string s, ruleV W P L M] w fun e w' => e = .returned (.int .i64 (nextT s W P L M)) ∧ Below w.heap.size w w' := by
  have hB : Below w.heap.size w ((w.alloc (.cells #[.int .i64 W, .int .i64 P, .int .i64 L, .int .i64 M] 56)).alloc (.cells #[.int .i64 0] 2)) := ((Below.refl _ _).alloc (Nat.le_refl _) _).alloc (by simp) _
  have hbx := (Below.heap_alloc (w.alloc (.cells #[.int .i64 W, .int .i64 P, .int .i64 L, .int .i64 M] 56)) (.cells #[.int .i64 0] 2) w.heap.size (by simp)).trans (heap_alloc_new w _)
  have hbr := heap_alloc_new (w.alloc (.cells #[.int .i64 W, .int .i64 P, .int .i64 L, .int .i64 M] 56)) (.cells #[.int .i64 0] 2)
  rw [World.size_alloc] at hbr
  cases hr : ruleB W P L M with
  | false =>
    have e : nextT s W P L M = -1 := by unfold nextT; rw [hr]; rfl
    rw [e]
    clear e
    go_enter Try.func56, Try.ntmps56
    go_wp2_with fail
    refine (implRuleOk_any _ _ _ _ _).mono ?_
    rintro e w1 ⟨rfl, hb1⟩
    rw [hr]
    have hbr1 : Boxed w1 (w.heap.size + 1) 2 (.int .i64 0) := (hb1.block (w.heap.size + 1) (by simp)).trans hbr
    have cr := hbr1.cell
    have fr := hbr1.frozen
    have hB1 := hB.trans (hb1.mono (by simp; omega))
    have cs := (hbr1.set (.int .i64 (-1))).cell
    have hB2 := hB1.setCell (p := ⟨w.heap.size + 1, 0, none⟩) (Nat.le_succ _) (.int .i64 (-1))
    clear hbx hbr hb1 hB hbr1
    go_wp2
    exact bodyPost_ret (v := .int .i64 (-1)) (by simp [results, Try.results56, go_sem, cs]) rfl ⟨rfl, hB2⟩
  | true =>
    obtain ⟨W, L, M, rfl, rfl, rfl, hok⟩ := ruleB_ok hr
    rw [nextT_ok s hok]
    by_cases hc : L + 1 ≤ M ∧ L ≤ s.size
    · exact implNext_in s W P L M w hs hok hc.1 hc.2
    · have hbl := byts_len s
      have HN : Hid (nextL W P L M (byts s) = min M s.size) := by
        show _ = _
        rw [nextL_none (fun j a b c => by omega), hbl]
      obtain ⟨⟨hW1, hW2⟩, ⟨hP1, hP2⟩, ⟨hL1, hL2⟩, hM1, hM2⟩ := hok
      go_enter Try.func56, Try.ntmps56
      go_wp2_with fail
      refine (implRuleOk_any _ _ _ _ _).mono ?_
      rintro e w1 ⟨rfl, hb1⟩
      rw [hr]
      obtain ⟨d0, d1, d2, d3⟩ := rule_cells (hb1.block w.heap.size (by simp; omega)) hbx
      have hbr1 : Boxed w1 (w.heap.size + 1) 2 (.int .i64 0) := (hb1.block (w.heap.size + 1) (by simp)).trans hbr
      have cr := hbr1.cell
      have fr := hbr1.frozen
      have hB1 := hB.trans (hb1.mono (by simp; omega))
      have cs := (hbr1.set (.int .i64 (nextL W P L M (byts s) : Int))).cell
      have hB2 := hB1.setCell (p := ⟨w.heap.size + 1, 0, none⟩) (Nat.le_succ _) (.int .i64 (nextL W P L M (byts s) : Int))
      clear hbx hbr hb1 hB hbr1
      have hlt : ¬ (L : Int) ≤ (M : Int) - 1 ∨ ¬ (L : Int) ≤ (s.size : Int) := by omega
      obtain ⟨z, hz⟩ : ∃ z : Int, z = min ((M : Int) - 1) (s.size : Int) := ⟨_, rfl⟩
      have hmn : (if (s.size : Int) < (M : Int) - 1 then (s.size : Int) else (M : Int) - 1) = z := by rw [hz]; split <;> omega
      have hzl : ¬ (L : Int) ≤ z := by omega
      clear hz hlt hc
      go_wp2
      all_goals
        have HNo := HN.out
        first
          | rw [show (s.size : Int) = (nextL W P L M (byts s) : Int) by omega]
          | rw [show (M : Int) = (nextL W P L M (byts s) : Int) by omega]
        exact bodyPost_ret (v := .int .i64 (nextL W P L M (byts s) : Int)) (by simp [results, Try.results56, go_sem, cs]) rfl ⟨rfl, hB2⟩

end Go.Proofs.Ytndecefcnalgdaa
