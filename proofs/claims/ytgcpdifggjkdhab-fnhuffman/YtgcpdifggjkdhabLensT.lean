/- CONTRACTS: the specification's Lengths, its walk. -/
import Derived.Test.YtgcpdifggjkdhabLensS
import Derived.Lib.Hide
namespace Go.Proofs.Ytgcpdifggjkdhab
open Go.RowKit
set_option linter.unusedVariables false

theorem l1Min5_any (a b : Int) (w : World) :
    Calls Try.prog 68 #[.int .i64 a, .int .i64 b] w fun e w' => e = .returned (.int .i64 (min a b)) ∧ w' = w := by
  by_cases h : a < b
  · have e : min a b = a := by omega
    rw [e]
    clear e
    go_enter Try.func68, Try.ntmps68
    go_wp2
    go_ret
    exact ⟨rfl, rfl⟩
  · have e : min a b = b := by omega
    rw [e]
    clear e
    go_enter Try.func68, Try.ntmps68
    go_wp2
    go_ret
    exact ⟨rfl, rfl⟩
theorem l1Max5_any (a b : Int) (w : World) :
    Calls Try.prog 69 #[.int .i64 a, .int .i64 b] w fun e w' => e = .returned (.int .i64 (max a b)) ∧ w' = w := by
  by_cases h : b < a
  · have e : max a b = a := by omega
    rw [e]
    clear e
    go_enter Try.func69, Try.ntmps69
    go_wp2
    go_ret
    exact ⟨rfl, rfl⟩
  · have e : max a b = b := by omega
    rw [e]
    clear e
    go_enter Try.func69, Try.ntmps69
    go_wp2
    go_ret
    exact ⟨rfl, rfl⟩

/-- a row of one kind stays where one of another kind is written -/
theorem owns_apart5 {w w' : World} {b b' : Nat} {e e' : TypeId} {v v' : Value} {n n' : Nat} {xs xs' : List Value} (h : w.ownsRow b e 1 v n xs) (k : w.ownsRow b' e' 1 v' n' xs') (he : e ≠ e') (hg : w.grownBy w' v'.ownBlock) : w'.ownsRow b e 1 v n xs :=
  h.kept hg (by
    rcases h.2 with ⟨rfl, _⟩ | ⟨g, cap, cur, rfl, _, hh, _⟩
    · exact .inl rfl
    · exact .inr (fun e2 => Lib.ownBlock_ne k hh he e2.symm))
theorem Try.infoI : (Try.prog.info? 3).map (fun i => (i.zero, i.size, i.bytes)) = some (some (.int .i64 0), 1, 8) := by kernel_rfl
/-- what stands at each merging -/
structure Inv5 (n : Nat) (cf H : Nat → Nat) (m : Nat) (gs : List Huff.Grp) (d grp sm : Nat → Nat) : Prop where
  sorted : gs.Pairwise Huff.gle
  rep : Huff.Rep n gs grp sm
  fin : H = Huff.huff m gs d
  len : gs.length = m
  dle : ∀ i, i < n → d i + m ≤ n
  sle : ∀ i, i < n → sm i ≤ 100000 * 2 ^ (n - m)
theorem inv_start {n : Nat} {cf : Nat → Nat} (h : ∀ i, i < n → cf i ≤ 100000) : Inv5 n cf (Huff.huff n (Huff.gstart cf n) fun _ => 0) n (Huff.gstart cf n) (fun _ => 0) (fun i => i) cf :=
  ⟨Huff.gstart_sorted cf n, Huff.rep_start cf n, rfl, Huff.gstart_len cf n, fun i _ => by simp, fun i hi => by rw [Nat.sub_self]; have := h i hi; omega⟩
theorem inv_end {n : Nat} {cf H d grp sm : Nat → Nat} {gs : List Huff.Grp} (h : Inv5 n cf H 1 gs d grp sm) : H = d := by
  have hl := h.len
  rw [h.fin]
  match gs, hl with
  | [g], _ => rfl
def grpS (grp : Nat → Nat) (a b : Nat) : Nat → Nat := fun i => if grp i = a ∨ grp i = b then min a b else grp i
def depS (d grp : Nat → Nat) (a b : Nat) : Nat → Nat := fun i => if grp i = a ∨ grp i = b then d i + 1 else d i
theorem inv_step {n m : Nat} {cf H d grp sm : Nat → Nat} {A B : Huff.Grp} {rest : List Huff.Grp} (h : Inv5 n cf H (m + 1) (A :: B :: rest) d grp sm) (hm : 1 ≤ m) (hmn : m + 1 ≤ n) :
    ∃ gs' d', (∀ i, i < n → d' i = depS d grp A.2.1 B.2.1 i) ∧ Inv5 n cf H m gs' d' (grpS grp A.2.1 B.2.1) (setF sm (min A.2.1 B.2.1) (sm A.2.1 + sm B.2.1)) := by
  have hl := h.len
  simp only [List.length_cons] at hl
  refine ⟨Huff.gins (Huff.gmerge A B) rest, Huff.bump d (A.2.2 ++ B.2.2), fun i hi => Huff.bump_iff h.rep d hi, ?_, ?_, h.fin, ?_, fun i hi => ?_, fun i hi => ?_⟩
  · exact Huff.gins_sorted (List.pairwise_cons.1 (List.pairwise_cons.1 h.sorted).2).2
  · exact Huff.rep_step h.rep (fun i _ => rfl) (fun i _ => rfl)
  · rw [Huff.gins_len]; omega
  · have h1 := h.dle i hi
    have h2 := (Huff.bump_le d (A.2.2 ++ B.2.2) i).1
    omega
  · have hA := h.sle A.2.1 (Huff.rep_lt h.rep (g := A) (by simp) (h.rep.first A (by simp)))
    have hB := h.sle B.2.1 (Huff.rep_lt h.rep (g := B) (by simp) (h.rep.first B (by simp)))
    have hi2 := h.sle i hi
    have e : 2 ^ (n - m) = 2 * 2 ^ (n - (m + 1)) := by rw [show n - m = (n - (m + 1)) + 1 by omega, Nat.pow_succ, Nat.mul_comm]
    rw [e]
    unfold setF
    split <;> omega
theorem inv_small {n m : Nat} {cf H d grp sm : Nat → Nat} {gs : List Huff.Grp} (h : Inv5 n cf H m gs d grp sm) (hm : 1 ≤ m) (hn : n ≤ 32) (i : Nat) (hi : i < n) : sm i ≤ 214748364800000 ∧ d i ≤ 32 := by
  have h1 := h.sle i hi
  have h2 : 2 ^ (n - m) ≤ 2 ^ 31 := Nat.pow_le_pow_right (by omega) (by omega)
  have h3 := h.dle i hi
  omega
theorem apart5 {a b k : Nat} (h : a ≠ b) (h1 : some b = some k) (h2 : some a = some k) : False := h (Option.some.inj (h2.trans h1.symm))
def mixF (p : Nat) (f g : Nat → Nat) : Nat → Nat := fun j => if j < p then f j else g j
theorem mixF_hit (p : Nat) (f g : Nat → Nat) : setF (mixF p f g) p (f p) = mixF (p + 1) f g := by
  funext j
  unfold setF mixF
  by_cases h : j = p
  · subst h; rw [if_pos rfl, if_pos (by omega)]
  · rw [if_neg h]
    by_cases h2 : j < p
    · rw [if_pos h2, if_pos (by omega)]
    · rw [if_neg h2, if_neg (by omega)]
theorem mixF_miss {p : Nat} {f g : Nat → Nat} (h : f p = g p) : mixF (p + 1) f g = mixF p f g := by
  funext j
  unfold mixF
  by_cases h2 : j < p
  · rw [if_pos h2, if_pos (by omega)]
  · rw [if_neg h2]
    by_cases h3 : j < p + 1
    · obtain rfl : j = p := by omega
      rw [if_pos h3, h]
    · rw [if_neg h3]
theorem mixF_zero (f g : Nat → Nat) : mixF 0 f g = g := by funext j; unfold mixF; rw [if_neg (by omega)]
theorem mixF_at (p : Nat) (f g : Nat → Nat) : mixF p f g p = g p := by unfold mixF; rw [if_neg (by omega)]
theorem rowF_congr {f g : Nat → Nat} {n : Nat} (h : ∀ i, i < n → f i = g i) : rowF f n = rowF g n := by
  unfold rowF
  refine List.map_congr_left fun i hi => ?_
  rw [h i (List.mem_range.1 hi)]
theorem mixF_end (n : Nat) (f g : Nat → Nat) : rowF (mixF n f g) n = rowF f n := rowF_congr fun i hi => by unfold mixF; rw [if_pos hi]
theorem owns_set5 {w : World} {base g cap n : Nat} {e : TypeId} {f : Nat → Nat} (h : w.ownsRow base e 1 (.slice (some ⟨g, 0, none⟩) n cap) n (cellsInt64S (rowF f n))) (i v : Nat) :
    (w.setCell ⟨g, i, none⟩ (.int .i64 (v : Int))).ownsRow base e 1 (.slice (some ⟨g, 0, none⟩) n cap) n (cellsInt64S (rowF (setF f i v) n)) ∧ w.grownBy (w.setCell ⟨g, i, none⟩ (.int .i64 (v : Int))) (some g) := by
  have h := World.ownsRow.stored h i (.int .i64 (v : Int))
  rw [rowF_set] at h
  exact h
set_option maxHeartbeats 1000000 in
set_option maxRecDepth 100000 in
theorem specLengths_any (va : Value) (c : List Int) (w : World) (ha : Rd w va (cellsInt64S c)) (hll : c.length ≤ 1099511627776) :
    Calls Try.prog 22 #[va] w fun e w' => ∃ v, e = .returned v ∧ w'.ownsRow w.heap.size 2 1 v (lengthsT c).length (cellsInt64S (lengthsT c)) ∧ Below w.heap.size w w' := by
  obtain ⟨i0, hi, hz0, hz1, hz2⟩ := info_parts Try.info64
  have H1 := l5Counts_any va c w ha hll
  have haa := ha
  cases hkb : allIn c 100000
  focus
    have e : lengthsT c = [] := by unfold lengthsT; rw [if_neg (by rw [hkb]; simp)]
    rw [hkb] at H1
    rw [e]
    have hB := (Below.refl w.heap.size w).alloc (Nat.le_refl _) (.cells #[] 2)
    have ho : (w.alloc (.cells #[] 2)).ownsRow w.heap.size 2 1 (.slice (some ⟨w.heap.size, 0, none⟩) 0 0) 0 (cellsInt64S []) := World.ownsRow_lit w #[] 0 (Nat.le_refl _) (Nat.zero_le _) rfl
    have hlA : (cellsInt64S c).length = c.length := by simp
    obtain ⟨ao, cap, rfl, _, _⟩ := ha
    rw [hlA] at H1 ⊢
    generalize c.length = n at H1 hll ⊢
    clear haa hkb e hlA
    go_enter Try.func22, Try.ntmps22
    go_wp2_with fail
    refine H1.mono ?_
    rintro e u ⟨rfl, hu⟩
    replace hu := hu.symm
    subst hu
    clear H1
    go_wp2
    go_ret
    exact ⟨_, rfl, ho, hB⟩
  obtain ⟨⟨hl1, hl32⟩, hall⟩ := allIn_out hkb
  have e : lengthsT c = lengthsI c := by unfold lengthsT; rw [if_pos hkb]
  rw [hkb] at H1
  rw [e]
  by_cases hn1 : c.length = 1
  focus
    have e1 : lengthsI c = [1] := by
      unfold lengthsI Huff.lenD
      rw [if_pos hn1, hn1]
      rfl
    rw [e1]
    have hB := (Below.refl w.heap.size w).alloc (Nat.le_refl _) (.cells #[.int .i64 1] 2)
    have ho : (w.alloc (.cells #[.int .i64 1] 2)).ownsRow w.heap.size 2 1 (.slice (some ⟨w.heap.size, 0, none⟩) 1 1) 1 (cellsInt64S [1]) := World.ownsRow_lit w #[.int .i64 1] 1 (Nat.le_refl _) (by unfold maxLen; omega) rfl
    have hlA : (cellsInt64S c).length = 1 := by simp [hn1]
    obtain ⟨ao, cap, rfl, _, _⟩ := ha
    rw [hlA] at H1 ⊢
    clear haa hkb e e1
    go_enter Try.func22, Try.ntmps22
    go_wp2_with fail
    refine H1.mono ?_
    rintro e u ⟨rfl, hu⟩
    replace hu := hu.symm
    subst hu
    clear H1
    go_wp2
    go_ret
    exact ⟨_, rfl, ho, hB⟩
  have hcN : rowF (cN c) c.length = c := rowF_cN fun i hi => by have := hall i hi; omega
  have hcB : ∀ i, i < c.length → cN c i ≤ 100000 := fun i hi => by have := hall i hi; unfold cN; omega
  have hLI : lengthsI c = rowF (Huff.huff c.length (Huff.gstart (cN c) c.length) fun _ => 0) c.length := by
    unfold lengthsI Huff.lenD
    rw [if_neg hn1]
  have hlA : (cellsInt64S c).length = c.length := by simp
  have HI0 : Hid (Inv5 c.length (cN c) (Huff.huff c.length (Huff.gstart (cN c) c.length) fun _ => 0) c.length (Huff.gstart (cN c) c.length) (fun _ => 0) (fun i => i) (cN c)) := inv_start hcB
  rw [hLI]
  generalize (Huff.huff c.length (Huff.gstart (cN c) c.length) fun _ => 0) = H at HI0 hLI ⊢
  obtain ⟨ao, cap, rfl, _, hx⟩ := ha
  rw [hlA] at H1 haa hx ⊢
  obtain ⟨b0, off0, rfl, hbl, hcells⟩ := hx (by intro h; rw [h] at hlA; simp at hlA; omega)
  have hnI : ¬ (c.length : Int) = 1 := by omega
  go_enter Try.func22, Try.ntmps22
  go_wp2_with fail
  refine H1.mono ?_
  rintro e u ⟨rfl, hu⟩
  replace hu := hu.symm
  subst hu
  clear H1
  go_wp2_with (at_make; refine wpList_make_full _ rfl _ _ 28 rfl w.heap.size 2 i0 (.int .i64 0) 1 Try.underlying28 hi hz0 hz1 _ _ _ _ c.length rfl rfl (by omega) (by omega) (by rw [hz2]; omega) (by unfold maxLen; omega) ?e1 ?_)
  case e1 => exact Nat.le_refl _
  intro w1 ho1 hg1
  have hs1 := hg1.size
  have hB1 : Below w.heap.size w w1 := (Below.refl _ _).grown hg1 (Nat.le_refl _) (fun q hq => by cases hq)
  have hO1 : w1.ownsRow w.heap.size 2 1 (.slice (some ⟨w.heap.size, 0, none⟩) c.length c.length) c.length (cellsInt64S (rowF (fun _ => 0) c.length)) := by
    have h := ho1
    rw [toList_madeCells_one] at h
    have e : cellsInt64S (rowF (fun _ => 0) c.length) = List.replicate c.length (.int .i64 0) := by
      unfold rowF cellsInt64S
      rw [List.map_map]
      show (List.range c.length).map (fun _ => Value.int .i64 0) = _
      rw [List.map_const', List.length_range]
    rw [e]
    simpa using h
  clear ho1
  generalize cap = cp at haa ⊢
  have hs1a : (w1.alloc (.cells #[] 3)).heap.size = w1.heap.size + 1 := World.size_alloc w1 _
  have hB1a := hB1.alloc hs1 (.cells #[] 3)
  have hO5 : (w1.alloc (.cells #[] 3)).ownsRow w1.heap.size 3 1 (.slice (some ⟨w1.heap.size, 0, none⟩) 0 0) 0 [] := World.ownsRow_lit w1 #[] 0 (Nat.le_refl _) (Nat.zero_le _) rfl
  have hO1a := owns_below hO1 ((Below.refl w1.heap.size w1).alloc (Nat.le_refl _) (.cells #[] 3))
  go_wp2_with (at_builtin; refine wpList_append_own _ rfl _ _ 28 rfl (w1.heap.size + 1) 2 i0 (.int .i64 0) 1 8 Try.underlying28 hi hz0 hz1 hz2 rfl (by decide) (.slice (some ⟨w1.heap.size + 1, 0, none⟩) 0 0) 0 [] rfl ?b0 ⟨b0, off0, none⟩ c.length cp (cellsInt64S c) rfl ?b1 ?b2 ?b3 ?b4 ?b5 ?b6 ?_)
  case b0 =>
    have h := World.ownsRow_lit (w1.alloc (.cells #[] 3)) (e := 2) (base := w1.heap.size + 1) (size := 1) #[] 0 (by rw [hs1a]; exact Nat.le_refl _) (Nat.zero_le _) rfl
    rw [hs1a] at h
    exact h
  case b1 => simp
  case b2 =>
    intro j u hj
    have hjl : j < c.length := by
      have h := (List.getElem?_eq_some_iff.1 hj).1
      rwa [hlA] at h
    have e : (⟨b0, off0, none⟩ : Addr).add j = ⟨b0, off0 + j, none⟩ := Addr.add_lit ..
    rw [e, ← hj, ← hcells j hjl]
    exact (hB1a.alloc (by rw [hs1a]; omega) _).cell (p := ⟨b0, off0 + j, none⟩) hbl
  case b3 => exact ints_oneCell .i64 c
  case b4 => unfold maxLen; omega
  case b5 => omega
  case b6 => show w1.heap.size + 1 ≤ _; rw [World.size_alloc, hs1a]; omega
  intro v6 w2 ho6 hg6 _
  have hs1b : ((w1.alloc (.cells #[] 3)).alloc (.cells #[] 2)).heap.size = w1.heap.size + 2 := by rw [World.size_alloc, hs1a]
  have hs2 : w1.heap.size + 2 ≤ w2.heap.size := by have := hg6.size; omega
  have hB2 : Below w.heap.size w w2 := (hB1a.alloc (by rw [hs1a]; omega) (.cells #[] 2)).grown hg6 (by omega) (fun q hq => by cases hq; show w.heap.size ≤ w1.heap.size + 1; omega)
  have hO5b := owns_below hO5 ((Below.refl (w1.alloc (.cells #[] 3)).heap.size (w1.alloc (.cells #[] 3))).alloc (Nat.le_refl _) (.cells #[] 2))
  have hO1b := owns_below hO1a ((Below.refl (w1.alloc (.cells #[] 3)).heap.size (w1.alloc (.cells #[] 3))).alloc (Nat.le_refl _) (.cells #[] 2))
  have hO5c := owns_grown hO5b hg6 (fun k hk => by cases hk; simp [Value.ownBlock])
  have hO1c := owns_grown hO1b hg6 (fun k hk => by cases hk; simp [Value.ownBlock]; omega)
  obtain ⟨g6, cap6, rfl, _⟩ := owns_head ho6 (by omega)
  have hg6lt : w1.heap.size + 1 ≤ g6 := (ho6.lt g6 rfl).1
  have hw0 : w.heap.size < w1.heap.size := (hO1.lt w.heap.size rfl).2
  clear hO5 hO5b hO1 hO1a hO1b hg6 hg1 hB1 hB1a hs1a hs1b hx hcells hbl haa
  rw [← hcN] at ho6
  have hlc : (rowF (cN c) c.length).length = c.length := rowF_len _ _
  rw [hlc] at ho6
  generalize hcc : cN c = cf at ho6 hcB HI0 ⊢
  have HN : Hid (∀ n, n = c.length → c.length = n) := fun n h => h.symm
  generalize hnn : c.length = n at ho6 hcB HI0 hO5c hO1c hl1 hl32 hn1 hnI hll hlc ⊢
  have HN2 : Hid (c.length = n) := hnn
  clear HN hnn
  clear hcN hlA hall hkb e hLI hlc hcc
  obtain ⟨j0, hj, hy0, hy1, hy2⟩ := info_parts Try.infoI
  go_wp2
  go_loopw [5, 7] (fun v i wr => ∃ k : Nat, i = .int .i64 k ∧ k ≤ n ∧ wr.ownsRow w1.heap.size 3 1 v k (cellsInt64S (rowF (fun i => i) k)) ∧ wr.ownsRow w.heap.size 2 1 (.slice (some ⟨w.heap.size, 0, none⟩) n n) n (cellsInt64S (rowF (fun _ => 0) n)) ∧ wr.ownsRow (w1.heap.size + 1) 2 1 (.slice (some ⟨g6, 0, none⟩) n cap6) n (cellsInt64S (rowF cf n)) ∧ Below w.heap.size w wr) (fun _ i _ => n - (intOf i).toNat)
  case atStart => exact ⟨0, rfl, Nat.zero_le _, hO5c, hO1c, ho6, hB2⟩
  case round =>
    obtain ⟨k, rfl, hk, ho5, ho1, ho6', hb⟩ := hrel
    clear hO5c hO1c hB2
    by_cases hlt : k < n
    focus
      have hszr := hb.size
      have hw1r : w1.heap.size + 1 ≤ wr.heap.size := by have := (ho6'.lt g6 rfl); omega
      have ho1b := World.ownsRow.alloc ho1 (.cells #[.int .i64 (k : Int)] 3)
      have ho6b := World.ownsRow.alloc ho6' (.cells #[.int .i64 (k : Int)] 3)
      have ho5b := World.ownsRow.alloc ho5 (.cells #[.int .i64 (k : Int)] 3)
      have hsA := World.size_alloc wr (.cells #[.int .i64 (k : Int)] 3)
      have hbb := hb.alloc hszr (.cells #[.int .i64 (k : Int)] 3)
      go_wp2_with (at_builtin; refine wpList_append_own _ rfl _ _ 71 rfl w1.heap.size 3 j0 (.int .i64 0) 1 8 Try.underlying71 hj hy0 hy1 hy2 rfl (by decide) _ _ _ rfl ho5b ⟨wr.heap.size, 0, none⟩ 1 1 [.int .i64 (k : Int)] rfl rfl (one_cell wr .i64 _ _) (ints_oneCell .i64 [(k : Int)]) ?c3 ?c4 ?c5 ?_)
      case c3 => unfold maxLen; omega
      case c4 => omega
      case c5 => rw [hsA]; omega
      intro v7 w7 ho7 hg7 _
      have hO1 := owns_grown ho1b hg7 (fun q hq => by
        have h := (ho5b.lt q hq).1
        have h2 := (hw0 : w.heap.size < w1.heap.size)
        show some w.heap.size ≠ some q
        intro e
        cases e
        omega)
      have hO6 := owns_apart5 ho6b ho5b (by decide) hg7
      have hO5 : w7.ownsRow w1.heap.size 3 1 v7 (k + 1) (cellsInt64S (rowF (fun i => i) (k + 1))) := by rw [rowF_snoc]; simpa [cellsInt64S] using ho7
      have hB7 : Below w.heap.size w w7 := hbb.grown hg7 (by rw [hsA]; omega) (fun q hq => by have := (ho5b.lt q hq).1; omega)
      clear ho7 hg7 ho1b ho6b ho5b hbb ho1 ho6' ho5 hb
      go_wp2
      go_roundw
      case rel => exact ⟨k + 1, by go_num, by omega, hO5, hO1, hO6, hB7⟩
      case measure => simp [intOf]; omega
    obtain rfl : k = n := by omega
    obtain ⟨g5, cap5, rfl, _⟩ := owns_head ho5 (by omega)
    have hg5lt : w1.heap.size ≤ g5 := (ho5.lt g5 rfl).1
    have h56 : g5 ≠ g6 := fun e => by
      subst e
      rcases ho5.2 with ⟨h, _⟩ | ⟨q, _, _, h, _, hq, _⟩
      · simp at h
      · simp only [Value.slice.injEq, Option.some.injEq, Addr.mk.injEq, and_true, true_and] at h
        obtain ⟨rfl, _⟩ := h
        exact Lib.ownBlock_ne ho6' hq (by decide) rfl
    clear ho6 hcB
    go_wp2
    go_loopw [8] (fun q wr => ∃ (m : Nat) (gs : List Huff.Grp) (d grp sm : Nat → Nat), q = .int .i64 m ∧ 1 ≤ m ∧ m ≤ k ∧ Hid (Inv5 k cf H m gs d grp sm) ∧
      wr.ownsRow w1.heap.size 3 1 (.slice (some ⟨g5, 0, none⟩) k cap5) k (cellsInt64S (rowF grp k)) ∧ wr.ownsRow w.heap.size 2 1 (.slice (some ⟨w.heap.size, 0, none⟩) k k) k (cellsInt64S (rowF d k)) ∧ wr.ownsRow (w1.heap.size + 1) 2 1 (.slice (some ⟨g6, 0, none⟩) k cap6) k (cellsInt64S (rowF sm k)) ∧ Below w.heap.size w wr) (fun q _ => (intOf q).toNat)
    case atStart => exact ⟨k, _, _, _, _, rfl, by omega, Nat.le_refl _, HI0.out, ho5, ho1, ho6', hb⟩
    case round =>
      clear HI0 ho5 ho1 ho6' hb
      rename World => w3
      obtain ⟨m, gs, d, grp, sm, rfl, hm1, hmk, HI, ho5, ho1, ho6, hb⟩ := hrel
      by_cases h1m : 1 < m
      focus
        obtain ⟨A, B, rest, hgs⟩ : ∃ A B rest, gs = A :: B :: rest := by
          have hlen := HI.out.len
          match gs, hlen with
          | A :: B :: rest, _ => exact ⟨A, B, rest, rfl⟩
          | [_], h => simp at h; omega
          | [], h => simp at h; omega
        subst hgs
        have HSM : Hid (∀ i, i < k → sm i ≤ 214748364800000 ∧ d i ≤ 32) := fun i hi => inv_small HI.out hm1 hl32 i hi
        have HG5 : Hid (∀ i, i < k → w3.cell? ⟨g5, i, none⟩ = some (.int .i64 ((grp i : Nat) : Int))) := fun i hi => by
          rw [ho5.cellAt i (by omega), ints_get _ _ i (by rw [rowF_len]; exact hi), rowF_get _ hi]
        have HG6 : Hid (∀ i, i < k → w3.cell? ⟨g6, i, none⟩ = some (.int .i64 ((sm i : Nat) : Int))) := fun i hi => by
          rw [ho6.cellAt i (by omega), ints_get _ _ i (by rw [rowF_len]; exact hi), rowF_get _ hi]
        have hmI : (1 : Int) < (m : Int) := by omega
        go_wp2
        go_loopw [9, 10, 11] (fun a b g wr => ∃ (q z : Nat) (x y : Int), g = .int .i64 q ∧ a = .int .i64 x ∧ b = .int .i64 y ∧ q ≤ k ∧ wr = w3.drewN z ∧ Hid (Huff.Sel (fun i => grp i = i) sm q x y)) (fun _ _ g _ => k - (intOf g).toNat)
        case atStart => exact ⟨0, 0, -1, -1, rfl, rfl, rfl, Nat.zero_le _, rfl, Huff.sel_start _ _⟩
        case round =>
          obtain ⟨q, z, x, y, rfl, rfl, rfl, hqk, rfl, HSEL⟩ := hrel
          by_cases hq : q < k
          focus
            have c5 := HG5.out q hq
            have c6 := HG6.out q hq
            have hsq := (HSM.out q hq).1
            by_cases hr : grp q = q
            focus
              rw [hr] at c5
              have hne : ((q : Int) != (q : Int)) = false := by simp
              have hone := HSEL.out.one
              have htwo := HSEL.out.two
              have HF : Hid (x < 0 ∨ sm q < sm x.toNat → Huff.Sel (fun i => grp i = i) sm (q + 1) (q : Int) x) := fun h => Huff.sel_first HSEL.out hr h
              have HSS : Hid (¬ (x < 0 ∨ sm q < sm x.toNat) → (y < 0 ∨ sm q < sm y.toNat) → Huff.Sel (fun i => grp i = i) sm (q + 1) x (q : Int)) := fun h h2 => Huff.sel_second HSEL.out hr h h2
              have HNN : Hid (¬ (x < 0 ∨ sm q < sm x.toNat) → ¬ (y < 0 ∨ sm q < sm y.toNat) → Huff.Sel (fun i => grp i = i) sm (q + 1) x y) := fun h h2 => Huff.sel_none HSEL.out h h2
              have hx0 : x < 0 → x = -1 := fun h => by rcases hone with h1 | h1; exact h1.1; omega
              have hx1 : ¬ x < 0 → x.toNat < q := fun h => by rcases hone with h1 | h1; omega; exact h1.2.1
              have hy0 : y < 0 → y = -1 := fun h => by rcases htwo with h1 | h1; exact h1.1; omega
              have hy1 : ¬ y < 0 → y.toNat < q := fun h => by rcases htwo with h1 | h1; omega; exact h1.2.1
              clear hone htwo hr HSEL HSM
              by_cases hx : x < 0
              focus
                have hxe := hx0 hx
                subst hxe
                have HS2 : Hid (Huff.Sel (fun i => grp i = i) sm (q + 1) (q : Int) (-1)) := HF.out (Or.inl (by omega))
                clear hx0 hx1 hy0 hy1 HF HSS HNN HG5 HG6
                go_wp2
                go_quiet (fail)
                go_wp2
                go_roundw
                case rel => exact ⟨q + 1, _, _, _, by go_num, rfl, rfl, by omega, rfl, HS2.out⟩
                case measure => simp [intOf]; omega
              obtain ⟨x, rfl⟩ := Int.eq_ofNat_of_zero_le (show 0 ≤ x by omega)
              have hxq := hx1 hx
              rw [Int.toNat_natCast] at hxq HF HSS HNN
              have c6x := HG6.out x (by omega)
              have hxk : x < k := by omega
              obtain ⟨u, hu⟩ : ∃ u, u = sm q := ⟨_, rfl⟩
              obtain ⟨v, hv⟩ : ∃ v, v = sm x := ⟨_, rfl⟩
              rw [← hu] at c6 HF HSS HNN hsq
              rw [← hv] at c6x HF HSS HNN
              by_cases huv : u < v
              focus
                have HS2 : Hid (Huff.Sel (fun i => grp i = i) sm (q + 1) (q : Int) (x : Int)) := HF.out (Or.inr huv)
                have huvI : (u : Int) < (v : Int) := by omega
                clear hx0 hx1 hy0 hy1 HF HSS HNN HG5 HG6 hu hv huv
                go_wp2
                have hxD : decide ((x : Int) < 0) = false := decide_eq_false (by omega)
                go_quiet (fail)
                go_wp2
                go_roundw
                case rel => exact ⟨q + 1, _, _, _, by go_num, rfl, rfl, by omega, rfl, HS2.out⟩
                case measure => simp [intOf]; omega
              have hnf : ¬ ((x : Int) < 0 ∨ u < v) := by omega
              have huvI : ¬ (u : Int) < (v : Int) := by omega
              have huvD : decide ((u : Int) < (v : Int)) = false := decide_eq_false (by omega)
              by_cases hy : y < 0
              focus
                have hye := hy0 hy
                subst hye
                have HS2 : Hid (Huff.Sel (fun i => grp i = i) sm (q + 1) (x : Int) (q : Int)) := HSS.out hnf (Or.inl (by omega))
                clear hx0 hx1 hy0 hy1 HF HSS HNN HG5 HG6 hu hv hnf
                go_wp2
                have hxD : decide ((x : Int) < 0) = false := decide_eq_false (by omega)
                go_quiet (fail)
                go_wp2
                go_quiet (fail)
                go_wp2
                go_roundw
                case rel => exact ⟨q + 1, _, _, _, by go_num, rfl, rfl, by omega, rfl, HS2.out⟩
                case measure => simp [intOf]; omega
              obtain ⟨y, rfl⟩ := Int.eq_ofNat_of_zero_le (show 0 ≤ y by omega)
              have hyq := hy1 hy
              rw [Int.toNat_natCast] at hyq HSS HNN
              have c6y := HG6.out y (by omega)
              have hyk : y < k := by omega
              obtain ⟨t, ht⟩ : ∃ t, t = sm y := ⟨_, rfl⟩
              rw [← ht] at c6y HSS HNN
              by_cases hut : u < t
              focus
                have HS2 : Hid (Huff.Sel (fun i => grp i = i) sm (q + 1) (x : Int) (q : Int)) := HSS.out hnf (Or.inr hut)
                have hutI : (u : Int) < (t : Int) := by omega
                clear hx0 hx1 hy0 hy1 HF HSS HNN HG5 HG6 hu hv hnf ht hut
                go_wp2
                have hxD : decide ((x : Int) < 0) = false := decide_eq_false (by omega)
                go_quiet (fail)
                go_wp2
                have hyD : decide ((y : Int) < 0) = false := decide_eq_false (by omega)
                go_quiet (fail)
                go_wp2
                go_roundw
                case rel => exact ⟨q + 1, _, _, _, by go_num, rfl, rfl, by omega, rfl, HS2.out⟩
                case measure => simp [intOf]; omega
              have HS2 : Hid (Huff.Sel (fun i => grp i = i) sm (q + 1) (x : Int) (y : Int)) := HNN.out hnf (by omega)
              have hutI : ¬ (u : Int) < (t : Int) := by omega
              have hutD : decide ((u : Int) < (t : Int)) = false := decide_eq_false (by omega)
              clear hx0 hx1 hy0 hy1 HF HSS HNN HG5 HG6 hu hv hnf ht hut
              go_wp2
              have hxD : decide ((x : Int) < 0) = false := decide_eq_false (by omega)
              go_quiet (fail)
              go_wp2
              have hyD : decide ((y : Int) < 0) = false := decide_eq_false (by omega)
              go_quiet (fail)
              go_wp2
              go_roundw
              case rel => exact ⟨q + 1, _, _, _, by go_num, rfl, rfl, by omega, rfl, HS2.out⟩
              case measure => simp [intOf]; omega
            have HS2 : Hid (Huff.Sel (fun i => grp i = i) sm (q + 1) x y) := Huff.sel_skip HSEL.out hr
            have hne : (((grp q : Nat) : Int) != (q : Int)) = true := by simp; omega
            have hneI : ¬ ((grp q : Nat) : Int) = (q : Int) := by omega
            clear HSEL HG5 HG6 HSM
            go_wp2
            go_roundw
            case rel => exact ⟨q + 1, _, _, _, by go_num, rfl, rfl, by omega, rfl, HS2.out⟩
            case measure => simp [intOf]; omega
          obtain rfl : q = k := by omega
          obtain ⟨e1, e2, e3, e4, e5⟩ := Huff.sel_end HI.out.rep HI.out.sorted HSEL.out
          have HSTEP : Hid (∃ gs' d', (∀ i, i < q → d' i = depS d grp A.2.1 B.2.1 i) ∧ Inv5 q cf H (m - 1) gs' d' (grpS grp A.2.1 B.2.1) (setF sm (min A.2.1 B.2.1) (sm A.2.1 + sm B.2.1))) :=
            inv_step (m := m - 1) (by rw [show m - 1 + 1 = m by omega]; exact HI.out) (by omega) (by omega)
          obtain ⟨a, ha⟩ : ∃ a, a = A.2.1 := ⟨_, rfl⟩
          obtain ⟨b, hb5⟩ : ∃ b, b = B.2.1 := ⟨_, rfl⟩
          rw [← ha] at e1 e3 e5 HSTEP
          rw [← hb5] at e2 e4 e5 HSTEP
          clear ha hb5 HSEL HI
          subst e1 e2
          obtain ⟨lo, hlo⟩ : ∃ lo, lo = min a b := ⟨_, rfl⟩
          obtain ⟨hi5, hhi⟩ : ∃ hi5, hi5 = max a b := ⟨_, rfl⟩
          have hmn : min (a : Int) (b : Int) = (lo : Int) := by omega
          have hmx : max (a : Int) (b : Int) = (hi5 : Int) := by omega
          have hlk : lo < q := by omega
          have hhk : hi5 < q := by omega
          have hsum : sm lo + sm hi5 = sm a + sm b := by
            rcases Nat.lt_or_ge a b with h | h
            · rw [show lo = a by omega, show hi5 = b by omega]
            · rw [show lo = b by omega, show hi5 = a by omega, Nat.add_comm]
          rw [← hlo, ← hsum] at HSTEP
          have HSET : Hid (∀ i, (grp i = a ∨ grp i = b) ↔ (grp i = lo ∨ grp i = hi5)) := fun i => by omega
          have HDEP : Hid (∀ i, depS d grp a b i = if grp i = lo ∨ grp i = hi5 then d i + 1 else d i) := fun i => by
            unfold depS
            simp only [HSET.out i]
          have HGRP : Hid (∀ i, grpS grp a b i = if grp i = lo ∨ grp i = hi5 then lo else grp i) := fun i => by
            unfold grpS
            simp only [HSET.out i]
            rw [hlo]
          generalize depS d grp a b = dS at HSTEP HDEP
          generalize grpS grp a b = gS at HSTEP HGRP
          have c6l := HG6.out lo hlk
          have c6h := HG6.out hi5 hhk
          have hsl := (HSM.out lo hlk).1
          have hsh := (HSM.out hi5 hhk).1
          clear hlo hhi hsum e3 e4 e5 HSET HG6 HG5
          have ho6z := owns_below ho6 (below_drewN (Below.refl _ w3) z)
          have ho5z := owns_below ho5 (below_drewN (Below.refl _ w3) z)
          have ho1z := owns_below ho1 (below_drewN (Below.refl _ w3) z)
          have hbz := below_drewN hb z
          have c6lz : (w3.drewN z).cell? ⟨g6, lo, none⟩ = some (.int .i64 ((sm lo : Nat) : Int)) := c6l
          have c6hz : (w3.drewN z).cell? ⟨g6, hi5, none⟩ = some (.int .i64 ((sm hi5 : Nat) : Int)) := c6h
          clear c6l c6h ho6 ho5 ho1 hb
          generalize w3.drewN z = w4 at ho6z ho5z ho1z hbz c6lz c6hz ⊢
          have hfz6 := World.ownsRow.frozenAt ho6z lo
          go_wp2_with fail
          refine (l1Min5_any _ _ _).mono ?_
          rintro e u ⟨rfl, hu⟩
          replace hu := hu.symm
          subst hu
          rw [hmn]
          go_wp2_with fail
          refine (l1Max5_any _ _ _).mono ?_
          rintro e u ⟨rfl, hu⟩
          replace hu := hu.symm
          subst hu
          rw [hmx]
          clear hmn hmx
          have hst6 := owns_set5 ho6z lo (sm lo + sm hi5)
          have hcast : ((sm lo + sm hi5 : Nat) : Int) = (sm lo : Int) + (sm hi5 : Int) := by omega
          rw [hcast] at hst6
          clear hcast
          obtain ⟨u5, hu5⟩ : ∃ u5, u5 = sm lo := ⟨_, rfl⟩
          obtain ⟨v5, hv5⟩ : ∃ v5, v5 = sm hi5 := ⟨_, rfl⟩
          rw [← hu5] at c6lz hsl HSTEP hst6
          rw [← hv5] at c6hz hsh HSTEP hst6
          have HST6 := Lib.hid hst6
          clear hst6
          clear hu5 hv5
          go_wp2
          go_region
          have ho6n : ((w4.setCell ⟨g6, lo, none⟩ (.int .i64 ((u5 : Int) + (v5 : Int)))).drew).ownsRow (w1.heap.size + 1) 2 1 (.slice (some ⟨g6, 0, none⟩) q cap6) q (cellsInt64S (rowF (setF sm lo (u5 + v5)) q)) := HST6.out.1
          have hgr6 : w4.grownBy ((w4.setCell ⟨g6, lo, none⟩ (.int .i64 ((u5 : Int) + (v5 : Int)))).drew) (some g6) := grown_trans HST6.out.2 ⟨rfl, rfl, rfl, Nat.le_refl _, fun _ _ _ => rfl⟩
          have ho5n := owns_grown ho5z hgr6 (fun k hk e => apart5 h56 hk e)
          have hne16 : w.heap.size ≠ g6 := by omega
          have hne15 : w.heap.size ≠ g5 := by omega
          have ho1n := owns_grown ho1z hgr6 (fun k hk e => apart5 hne16 hk e)
          have hbn : Below w.heap.size w ((w4.setCell ⟨g6, lo, none⟩ (.int .i64 ((u5 : Int) + (v5 : Int)))).drew) := hbz.grown hgr6 hbz.size (fun k hk => by cases hk; omega)
          clear HST6 hgr6 ho6z ho5z ho1z hbz c6lz c6hz hfz6
          generalize (w4.setCell ⟨g6, lo, none⟩ (.int .i64 ((u5 : Int) + (v5 : Int)))).drew = w5 at ho6n ho5n ho1n hbn ⊢
          go_wp2
          go_loopw [14] (fun i wr => ∃ p : Nat, i = .int .i64 p ∧ p ≤ q ∧ wr.ownsRow w1.heap.size 3 1 (.slice (some ⟨g5, 0, none⟩) q cap5) q (cellsInt64S (rowF (mixF p gS grp) q)) ∧ wr.ownsRow w.heap.size 2 1 (.slice (some ⟨w.heap.size, 0, none⟩) q q) q (cellsInt64S (rowF (mixF p dS d) q)) ∧ wr.ownsRow (w1.heap.size + 1) 2 1 (.slice (some ⟨g6, 0, none⟩) q cap6) q (cellsInt64S (rowF (setF sm lo (u5 + v5)) q)) ∧ Below w.heap.size w wr) (fun i _ => q - (intOf i).toNat)
          case atStart => exact ⟨0, rfl, Nat.zero_le _, by rw [mixF_zero]; exact ho5n, by rw [mixF_zero]; exact ho1n, ho6n, hbn⟩
          case round =>
            clear ho5n ho1n ho6n hbn
            rename World => w6
            obtain ⟨p, rfl, hpq, hr5, hr1, hr6, hrb⟩ := hrel
            by_cases hplt : p < q
            focus
              have c5 : w6.cell? ⟨g5, p, none⟩ = some (.int .i64 ((grp p : Nat) : Int)) := by
                rw [World.ownsRow.cellAt hr5 p (by omega), ints_get _ _ p (by rw [rowF_len]; exact hplt), rowF_get _ hplt, mixF_at]
              have c1 : w6.cell? ⟨w.heap.size, p, none⟩ = some (.int .i64 ((d p : Nat) : Int)) := by
                rw [World.ownsRow.cellAt hr1 p (by omega), ints_get _ _ p (by rw [rowF_len]; exact hplt), rowF_get _ hplt, mixF_at]
              have f1 := World.ownsRow.frozenAt hr1 p
              have f5 := World.ownsRow.frozenAt hr5 p
              have hdp := (HSM.out p hplt).2
              have HDp := Lib.hid (HDEP.out p)
              have HGp := Lib.hid (HGRP.out p)
              by_cases hhit : grp p = lo ∨ grp p = hi5
              focus
                have hs1 := owns_set5 hr1 p (d p + 1)
                rw [show d p + 1 = dS p by rw [HDp.out, if_pos hhit], mixF_hit, show dS p = d p + 1 by rw [HDp.out, if_pos hhit]] at hs1
                have hr5' := owns_grown hr5 hs1.2 (fun k hk e => apart5 hne15.symm hk e)
                have hr6' := owns_grown hr6 hs1.2 (fun k hk e => apart5 hne16.symm hk e)
                have hrb' := hrb.grown hs1.2 hrb.size (fun k hk => by cases hk; exact Nat.le_refl _)
                have hs5 := owns_set5 hr5' p lo
                rw [show lo = gS p by rw [HGp.out, if_pos hhit], mixF_hit, show gS p = lo by rw [HGp.out, if_pos hhit]] at hs5
                have hr1'' := owns_grown hs1.1 hs5.2 (fun k hk e => apart5 hne15 hk e)
                have hr6'' := owns_grown hr6' hs5.2 (fun k hk e => apart5 h56.symm hk e)
                have hrb'' := hrb'.grown hs5.2 hrb'.size (fun k hk => by cases hk; omega)
                have hcast : ((d p + 1 : Nat) : Int) = (d p : Int) + 1 := by omega
                rw [hcast] at hs5 hr1'' hr6'' hrb''
                have HS5 := Lib.hid hs5.1
                have f5' : (w6.setCell ⟨w.heap.size, p, none⟩ (.int .i64 ((d p : Int) + 1))).frozen? ⟨g5, p, none⟩ = false := by
                  have h := World.ownsRow.frozenAt hr5' p
                  rw [hcast] at h
                  exact h
                have HR1 := Lib.hid hr1''
                have HR6 := Lib.hid hr6''
                have HRB := Lib.hid hrb''
                clear hs1 hr5' hr6' hrb' hs5 hr1'' hr6'' hrb'' hcast hr5 hr1 hr6 hrb HDp HGp
                obtain ⟨x, hx⟩ : ∃ x, x = grp p := ⟨_, rfl⟩
                obtain ⟨y, hy⟩ : ∃ y, y = d p := ⟨_, rfl⟩
                rw [← hx] at c5 hhit
                rw [← hy] at c1 hdp HS5 f5' HR1 HR6 HRB
                clear hx hy
                by_cases hxl : x = lo
                focus
                  have hxB : ((x : Int) == (lo : Int)) = true := by rw [hxl]; exact beq_self_eq_true _
                  clear hhit hxl
                  go_wp2
                  go_roundw
                  case rel => exact ⟨p + 1, by go_num, by omega, HS5.out, HR1.out, HR6.out, HRB.out⟩
                  case measure => simp [intOf]; omega
                have hxh : x = hi5 := hhit.resolve_left hxl
                have hxB : ((x : Int) == (lo : Int)) = false := by simp; omega
                have hxB2 : ((x : Int) == (hi5 : Int)) = true := by rw [hxh]; exact beq_self_eq_true _
                clear hhit hxl hxh
                go_wp2
                go_roundw
                case rel => exact ⟨p + 1, by go_num, by omega, HS5.out, HR1.out, HR6.out, HRB.out⟩
                case measure => simp [intOf]; omega
              have hr5' : w6.ownsRow w1.heap.size 3 1 (.slice (some ⟨g5, 0, none⟩) q cap5) q (cellsInt64S (rowF (mixF (p + 1) gS grp) q)) := by
                rw [mixF_miss (by rw [HGp.out, if_neg hhit])]; exact hr5
              have hr1' : w6.ownsRow w.heap.size 2 1 (.slice (some ⟨w.heap.size, 0, none⟩) q q) q (cellsInt64S (rowF (mixF (p + 1) dS d) q)) := by
                rw [mixF_miss (by rw [HDp.out, if_neg hhit])]; exact hr1
              have HR5 := Lib.hid hr5'
              have HR1 := Lib.hid hr1'
              clear hr5 hr1 hr5' hr1' HDp HGp
              obtain ⟨x, hx⟩ : ∃ x, x = grp p := ⟨_, rfl⟩
              rw [← hx] at c5 hhit
              have hxB : ((x : Int) == (lo : Int)) = false := by simp; omega
              have hxB2 : ((x : Int) == (hi5 : Int)) = false := by simp; omega
              clear hx hhit
              go_wp2
              go_roundw
              case rel => exact ⟨p + 1, by go_num, by omega, HR5.out, HR1.out, hr6, hrb⟩
              case measure => simp [intOf]; omega
            obtain rfl : p = q := by omega
            obtain ⟨gs', d', hd', hinv'⟩ := HSTEP.out
            rw [mixF_end] at hr5 hr1
            rw [← rowF_congr hd'] at hr1
            have HI' := Lib.hid hinv'
            clear hd' hinv' HSTEP HDEP HGRP HSM
            go_wp2
            go_roundw
            case rel => exact ⟨m - 1, gs', d', gS, _, by go_num, by omega, by omega, HI'.out, hr5, hr1, hr6, hrb⟩
            case measure => simp [intOf]; omega
      obtain rfl : m = 1 := by omega
      have hHd := inv_end HI.out
      subst hHd
      have hmI : ¬ (1 : Int) < ((1 : Nat) : Int) := by omega
      have hlen := rowF_len H k
      go_wp2
      go_ret
      exact ⟨_, rfl, by rw [HN2.out, hlen]; exact ho1, hb⟩

end Go.Proofs.Ytgcpdifggjkdhab
