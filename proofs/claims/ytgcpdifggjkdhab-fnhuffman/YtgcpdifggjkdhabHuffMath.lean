/- ON SHORT CODES: groups are merged, the two least ones first; no lengths that Kraft allows cost less. It speaks of no program. -/
import Derived.Test.YtgcpdifggjkdhabBasis
namespace Go.Proofs.Ytgcpdifggjkdhab.Huff

/-- a group: its count, its first number, all its numbers -/
abbrev Grp := Nat × Nat × List Nat
abbrev gle (a b : Grp) : Prop := a.1 < b.1 ∨ (a.1 = b.1 ∧ a.2.1 ≤ b.2.1)
theorem gle_total (a b : Grp) : gle a b ∨ gle b a := by unfold gle; omega
theorem gle_trans {a b c : Grp} (h : gle a b) (k : gle b c) : gle a c := by unfold gle at *; omega
def gins (g : Grp) : List Grp → List Grp
  | [] => [g]
  | h :: t => if gle g h then g :: h :: t else h :: gins g t
def gmerge (a b : Grp) : Grp := (a.1 + b.1, min a.2.1 b.2.1, a.2.2 ++ b.2.2)
/-- one more for each of some numbers -/
def bump (d : Nat → Nat) (ms : List Nat) : Nat → Nat := fun i => if i ∈ ms then d i + 1 else d i
def huff : Nat → List Grp → (Nat → Nat) → (Nat → Nat)
  | n + 1, a :: b :: rest, d => huff n (gins (gmerge a b) rest) (bump d (a.2.2 ++ b.2.2))
  | _, _, d => d
/-- what all merged groups count -/
def hcost : Nat → List Grp → Nat
  | n + 1, a :: b :: rest => a.1 + b.1 + hcost n (gins (gmerge a b) rest)
  | _, _ => 0
/-- the last groups -/
def hlast : Nat → List Grp → List Grp
  | n + 1, a :: b :: rest => hlast n (gins (gmerge a b) rest)
  | _, gs => gs
def gstart (c : Nat → Nat) (n : Nat) : List Grp := (List.range n).foldr (fun i gs => gins (c i, i, [i]) gs) []
def lengthsF (c : Nat → Nat) (n : Nat) : List Nat := if n = 1 then [1] else (List.range n).map (huff n (gstart c n) fun _ => 0)

/-! lists of groups -/
theorem gins_perm (g : Grp) (gs : List Grp) : (gins g gs).Perm (g :: gs) := by
  induction gs with
  | nil => exact List.Perm.refl _
  | cons h t ih =>
    unfold gins
    split
    · exact List.Perm.refl _
    · exact (ih.cons h).trans (List.Perm.swap g h t)
theorem gins_len (g : Grp) (gs : List Grp) : (gins g gs).length = gs.length + 1 := (gins_perm g gs).length_eq
theorem gins_sorted {g : Grp} {gs : List Grp} (h : gs.Pairwise gle) : (gins g gs).Pairwise gle := by
  induction gs with
  | nil => exact List.pairwise_singleton ..
  | cons a t ih =>
    obtain ⟨h1, h2⟩ := List.pairwise_cons.1 h
    unfold gins
    split
    · rename_i hg
      refine List.pairwise_cons.2 ⟨fun b hb => ?_, h⟩
      rcases List.mem_cons.1 hb with rfl | hb
      · exact hg
      · exact gle_trans hg (h1 b hb)
    · rename_i hg
      refine List.pairwise_cons.2 ⟨fun b hb => ?_, ih h2⟩
      rcases List.mem_cons.1 ((gins_perm g t).mem_iff.1 hb) with rfl | hb
      · exact (gle_total a b).resolve_right hg
      · exact h1 b hb
theorem gstart_sorted (c : Nat → Nat) (n : Nat) : (gstart c n).Pairwise gle := by
  unfold gstart
  induction List.range n with
  | nil => exact List.Pairwise.nil
  | cons a t ih => exact gins_sorted ih
theorem gstart_perm (c : Nat → Nat) (n : Nat) : (gstart c n).Perm ((List.range n).map fun i => (c i, i, [i])) := by
  unfold gstart
  induction List.range n with
  | nil => exact List.Perm.refl _
  | cons a t ih => exact (gins_perm _ _).trans (ih.cons _)
theorem gstart_len (c : Nat → Nat) (n : Nat) : (gstart c n).length = n := by rw [(gstart_perm c n).length_eq]; simp

/-! sums -/
theorem sum_perm {l m : List Nat} (h : l.Perm m) : l.sum = m.sum := by
  induction h with
  | nil => rfl
  | cons x _ ih => simp [ih]
  | swap x y l => simp; omega
  | trans _ _ h1 h2 => exact h1.trans h2
theorem sum_map_congr {α : Type} {l : List α} {f g : α → Nat} (h : ∀ x ∈ l, f x = g x) : (l.map f).sum = (l.map g).sum := by
  rw [List.map_congr_left h]
theorem sum_map_add {α : Type} (l : List α) (f g : α → Nat) : (l.map fun x => f x + g x).sum = (l.map f).sum + (l.map g).sum := by
  induction l with
  | nil => rfl
  | cons a t ih => simp [ih]; omega
theorem sum_flat {α : Type} (gs : List α) (m : α → List Nat) (f : Nat → Nat) : ((gs.flatMap m).map f).sum = (gs.map fun g => ((m g).map f).sum).sum := by
  induction gs with
  | nil => rfl
  | cons a t ih => simp [List.flatMap_cons, ih]
theorem sum_le_of_mem {α : Type} {l : List α} {f : α → Nat} {x : α} (h : x ∈ l) : f x ≤ (l.map f).sum := by
  induction l with
  | nil => cases h
  | cons a t ih =>
    rcases List.mem_cons.1 h with rfl | h
    · simp
    · have := ih h
      simp; omega

/-! what stands at each step: all numbers are in the groups, once; a group counts what its numbers count; in each group the lengths are full -/
structure Good (c : Nat → Nat) (n N : Nat) (gs : List Grp) (d : Nat → Nat) : Prop where
  sorted : gs.Pairwise gle
  all : (gs.flatMap fun g => g.2.2).Perm (List.range n)
  sums : ∀ g ∈ gs, g.1 = (g.2.2.map c).sum
  full : ∀ g ∈ gs, (g.2.2.map fun i => 2 ^ (N - d i)).sum = 2 ^ N
  some : ∀ g ∈ gs, g.2.2 ≠ []

theorem nodup_all {c : Nat → Nat} {n N : Nat} {gs : List Grp} {d : Nat → Nat} (h : Good c n N gs d) : (gs.flatMap fun g => g.2.2).Nodup := (h.all.nodup_iff).2 List.nodup_range

theorem good_step {c : Nat → Nat} {n N : Nat} {a b : Grp} {rest : List Grp} {d : Nat → Nat} (h : Good c n N (a :: b :: rest) d) (hd : ∀ i, i < n → d i + 1 ≤ N) :
    Good c n N (gins (gmerge a b) rest) (bump d (a.2.2 ++ b.2.2)) := by
  have hn := nodup_all h
  have hp := gins_perm (gmerge a b) rest
  have hall : ((a.2.2 ++ b.2.2) ++ rest.flatMap fun g => g.2.2).Perm (List.range n) := by
    have := h.all
    simp only [List.flatMap_cons] at this
    rwa [← List.append_assoc] at this
  have hn2 : ((a.2.2 ++ b.2.2) ++ rest.flatMap fun g => g.2.2).Nodup := (hall.nodup_iff).2 List.nodup_range
  have hin : ∀ i ∈ a.2.2 ++ b.2.2, i < n := fun i hi => List.mem_range.1 (hall.mem_iff.1 (List.mem_append_left _ hi))
  have hout : ∀ g ∈ rest, ∀ i ∈ g.2.2, i ∉ a.2.2 ++ b.2.2 := fun g hg i hi hh => by
    have := (List.nodup_append.1 hn2).2.2
    exact this i hh i (List.mem_flatMap.2 ⟨g, hg, hi⟩) rfl
  have hhalf : ∀ g, g = a ∨ g = b → 2 * (g.2.2.map fun i => 2 ^ (N - bump d (a.2.2 ++ b.2.2) i)).sum = 2 ^ N := fun g hg => by
    have hm : ∀ i ∈ g.2.2, i ∈ a.2.2 ++ b.2.2 := fun i hi => by rcases hg with rfl | rfl <;> simp [hi]
    have hf : (g.2.2.map fun i => 2 ^ (N - d i)).sum = 2 ^ N := h.full g (by rcases hg with rfl | rfl <;> simp)
    rw [← hf]
    have e : ∀ i ∈ g.2.2, (fun i => 2 ^ (N - d i)) i = (fun i => 2 ^ (N - bump d (a.2.2 ++ b.2.2) i) + 2 ^ (N - bump d (a.2.2 ++ b.2.2) i)) i := fun i hi => by
      have h1 := hd i (hin i (hm i hi))
      show 2 ^ (N - d i) = 2 ^ (N - bump d (a.2.2 ++ b.2.2) i) + 2 ^ (N - bump d (a.2.2 ++ b.2.2) i)
      unfold bump
      rw [if_pos (hm i hi), show N - d i = (N - (d i + 1)) + 1 by omega, Nat.pow_succ]
      omega
    rw [sum_map_congr e, sum_map_add]
    omega
  refine ⟨gins_sorted (List.pairwise_cons.1 (List.pairwise_cons.1 h.sorted).2).2, ?_, fun g hg => ?_, fun g hg => ?_, fun g hg => ?_⟩
  · refine (List.Perm.flatMap_right _ hp).trans ?_
    rw [List.flatMap_cons]
    exact hall
  · rcases List.mem_cons.1 (hp.mem_iff.1 hg) with rfl | hg
    · have h1 := h.sums a (by simp)
      have h2 := h.sums b (by simp)
      show a.1 + b.1 = ((a.2.2 ++ b.2.2).map c).sum
      rw [List.map_append, List.sum_append, ← h1, ← h2]
    · exact h.sums g (by simp [hg])
  · rcases List.mem_cons.1 (hp.mem_iff.1 hg) with rfl | hg
    · have h1 := hhalf a (Or.inl rfl)
      have h2 := hhalf b (Or.inr rfl)
      show ((a.2.2 ++ b.2.2).map _).sum = _
      rw [List.map_append, List.sum_append]
      omega
    · rw [← h.full g (by simp [hg])]
      refine sum_map_congr fun i hi => ?_
      show 2 ^ (N - bump d (a.2.2 ++ b.2.2) i) = _
      unfold bump
      rw [if_neg (hout g hg i hi)]
  · rcases List.mem_cons.1 (hp.mem_iff.1 hg) with rfl | hg
    · show a.2.2 ++ b.2.2 ≠ []
      have := h.some a (by simp)
      simp [this]
    · exact h.some g (by simp [hg])

theorem good_start (c : Nat → Nat) (n N : Nat) : Good c n N (gstart c n) fun _ => 0 := by
  have hp := gstart_perm c n
  have hm : ∀ g ∈ gstart c n, ∃ i, g = (c i, i, [i]) := fun g hg => by
    obtain ⟨i, _, e⟩ := List.mem_map.1 (hp.mem_iff.1 hg)
    exact ⟨i, e.symm⟩
  refine ⟨gstart_sorted c n, ?_, fun g hg => ?_, fun g hg => ?_, fun g hg => ?_⟩
  · refine (List.Perm.flatMap_right _ hp).trans ?_
    rw [List.flatMap_map]
    have : ∀ l : List Nat, (l.flatMap fun i => [i]) = l := fun l => by induction l with
      | nil => rfl
      | cons a t ih => rw [List.flatMap_cons, ih]; rfl
    exact List.Perm.of_eq (this _)
  all_goals obtain ⟨i, rfl⟩ := hm g hg
  · simp
  · simp
  · simp

theorem bump_le (d : Nat → Nat) (ms : List Nat) (i : Nat) : bump d ms i ≤ d i + 1 ∧ d i ≤ bump d ms i := by unfold bump; split <;> omega

/-- at the end one group is left, in which the lengths are full -/
theorem huff_good (c : Nat → Nat) (n N : Nat) : ∀ (k : Nat) (gs : List Grp) (d : Nat → Nat), gs.length ≤ k + 1 → 1 ≤ gs.length → Good c n N gs d → (∀ i, i < n → d i + gs.length ≤ N + 1) →
    ∃ g, Good c n N [g] (huff k gs d) ∧ (∀ i, i < n → huff k gs d i + 1 ≤ d i + gs.length) := by
  intro k
  induction k with
  | zero =>
    intro gs d h1 h2 hg hd
    match gs, h1, h2, hg with
    | [g], _, _, hg => exact ⟨g, hg, fun i hi => by simp [huff]⟩
  | succ k ih =>
    intro gs d h1 h2 hg hd
    match gs, h1, h2, hg, hd with
    | [g], _, _, hg, _ => exact ⟨g, hg, fun i hi => by simp [huff]⟩
    | a :: b :: rest, h1, _, hg, hd =>
      have hl := gins_len (gmerge a b) rest
      simp only [List.length_cons] at h1 hd ⊢
      obtain ⟨g, h3, h4⟩ := ih (gins (gmerge a b) rest) (bump d (a.2.2 ++ b.2.2)) (by omega) (by omega) (good_step hg fun i hi => by have := hd i hi; omega) (fun i hi => by
        have := hd i hi
        have := (bump_le d (a.2.2 ++ b.2.2) i).1
        omega)
      exact ⟨g, h3, fun i hi => by
        have := h4 i hi
        have := (bump_le d (a.2.2 ++ b.2.2) i).1
        show huff k _ _ i + 1 ≤ _
        omega⟩

/-- what the lengths cost is what all merged groups count -/
def cost (c d : Nat → Nat) (n : Nat) : Nat := ((List.range n).map fun i => c i * d i).sum
theorem cost_step {c : Nat → Nat} {n N : Nat} {a b : Grp} {rest : List Grp} {d : Nat → Nat} (h : Good c n N (a :: b :: rest) d) :
    cost c (bump d (a.2.2 ++ b.2.2)) n = cost c d n + (a.1 + b.1) := by
  have hall : ((a.2.2 ++ b.2.2) ++ rest.flatMap fun g => g.2.2).Perm (List.range n) := by
    have := h.all
    simp only [List.flatMap_cons] at this
    rwa [← List.append_assoc] at this
  have hn2 : ((a.2.2 ++ b.2.2) ++ rest.flatMap fun g => g.2.2).Nodup := (hall.nodup_iff).2 List.nodup_range
  unfold cost
  rw [← sum_perm (hall.map _), ← sum_perm (hall.map _), List.map_append (l₁ := a.2.2 ++ b.2.2), List.sum_append, List.map_append (l₁ := a.2.2 ++ b.2.2), List.sum_append]
  have e1 : ((a.2.2 ++ b.2.2).map fun i => c i * bump d (a.2.2 ++ b.2.2) i).sum = ((a.2.2 ++ b.2.2).map fun i => c i * d i).sum + ((a.2.2 ++ b.2.2).map c).sum := by
    rw [← sum_map_add]
    refine sum_map_congr fun i hi => ?_
    unfold bump
    rw [if_pos hi, Nat.mul_add, Nat.mul_one]
  have e2 : ((rest.flatMap fun g => g.2.2).map fun i => c i * bump d (a.2.2 ++ b.2.2) i).sum = ((rest.flatMap fun g => g.2.2).map fun i => c i * d i).sum := by
    refine sum_map_congr fun i hi => ?_
    have : i ∉ a.2.2 ++ b.2.2 := fun hh => (List.nodup_append.1 hn2).2.2 i hh i hi rfl
    unfold bump
    rw [if_neg this]
  have e3 : ((a.2.2 ++ b.2.2).map c).sum = a.1 + b.1 := by
    rw [List.map_append, List.sum_append, ← h.sums a (by simp), ← h.sums b (by simp)]
  rw [e1, e2, e3]
  omega
theorem huff_cost (c : Nat → Nat) (n N : Nat) : ∀ (k : Nat) (gs : List Grp) (d : Nat → Nat), Good c n N gs d → (∀ i, i < n → d i + gs.length ≤ N + 1) → cost c (huff k gs d) n = cost c d n + hcost k gs := by
  intro k
  induction k with
  | zero => intro gs d _ _; simp [huff, hcost]
  | succ k ih =>
    intro gs d hg hd
    match gs, hg, hd with
    | [], _, _ => simp [huff, hcost]
    | [g], _, _ => simp [huff, hcost]
    | a :: b :: rest, hg, hd =>
      have hl := gins_len (gmerge a b) rest
      simp only [List.length_cons] at hd
      have h1 := ih (gins (gmerge a b) rest) (bump d (a.2.2 ++ b.2.2)) (good_step hg fun i hi => by have := hd i hi; omega) (fun i hi => by
        have := hd i hi
        have := (bump_le d (a.2.2 ++ b.2.2) i).1
        omega)
      show cost c (huff k _ _) n = cost c d n + (a.1 + b.1 + hcost k _)
      rw [h1, cost_step hg]
      omega

/-! no lengths that Kraft allows cost less -/
def kraftP (N : Nat) (P : List (Nat × Nat)) : Nat := (P.map fun p => 2 ^ (N - p.2)).sum
def costP (P : List (Nat × Nat)) : Nat := (P.map fun p => p.1 * p.2).sum

theorem perm_out {α : Type} {x : α} {l : List α} (h : x ∈ l) : ∃ r, l.Perm (x :: r) := by
  obtain ⟨s, t, rfl⟩ := List.append_of_mem h
  exact ⟨s ++ t, List.perm_middle⟩
theorem max_mem (P : List (Nat × Nat)) (h : P ≠ []) : ∃ m ∈ P, ∀ p ∈ P, p.2 ≤ m.2 := by
  induction P with
  | nil => exact absurd rfl h
  | cons a t ih =>
    by_cases ht : t = []
    · subst ht
      exact ⟨a, by simp, fun p hp => by simp at hp; subst hp; omega⟩
    · obtain ⟨m, hm, hmm⟩ := ih ht
      by_cases hc : a.2 ≤ m.2
      · exact ⟨m, by simp [hm], fun p hp => by
          rcases List.mem_cons.1 hp with rfl | hp
          · exact hc
          · exact hmm p hp⟩
      · exact ⟨a, by simp, fun p hp => by
          rcases List.mem_cons.1 hp with rfl | hp
          · omega
          · have := hmm p hp; omega⟩
theorem kraftP_perm (N : Nat) {P Q : List (Nat × Nat)} (h : P.Perm Q) : kraftP N P = kraftP N Q := sum_perm (h.map _)
theorem costP_perm {P Q : List (Nat × Nat)} (h : P.Perm Q) : costP P = costP Q := sum_perm (h.map _)
theorem kraftP_cons (N : Nat) (p : Nat × Nat) (P : List (Nat × Nat)) : kraftP N (p :: P) = 2 ^ (N - p.2) + kraftP N P := by simp [kraftP]
theorem costP_cons (p : Nat × Nat) (P : List (Nat × Nat)) : costP (p :: P) = p.1 * p.2 + costP P := by simp [costP]

/-- the least count may have the greatest length -/
theorem take_max (N : Nat) {P : List (Nat × Nat)} {w : Nat} {ws : List Nat} (hp : (P.map Prod.fst).Perm (w :: ws)) (hw : ∀ v ∈ ws, w ≤ v) :
    ∃ (M : Nat) (R : List (Nat × Nat)), (R.map Prod.fst).Perm ws ∧ (∀ p ∈ R, p.2 ≤ M) ∧ (∃ p ∈ P, p.2 = M) ∧ (∀ p ∈ R, ∃ q ∈ P, q.2 = p.2) ∧ kraftP N ((w, M) :: R) = kraftP N P ∧ costP ((w, M) :: R) ≤ costP P := by
  obtain ⟨q, hq, rfl⟩ := List.mem_map.1 (hp.mem_iff.2 (List.mem_cons_self ..))
  obtain ⟨R0, h0⟩ := perm_out hq
  have h1 : (R0.map Prod.fst).Perm ws := by
    have := (h0.map Prod.fst).symm.trans hp
    rw [List.map_cons] at this
    exact this.cons_inv
  by_cases hx : ∀ p ∈ R0, p.2 ≤ q.2
  · exact ⟨q.2, R0, h1, hx, ⟨q, hq, rfl⟩, fun p hp => ⟨p, h0.mem_iff.2 (by simp [hp]), rfl⟩, (kraftP_perm N h0).symm, Nat.le_of_eq (costP_perm h0).symm⟩
  · have hne : R0 ≠ [] := fun e => hx (by subst e; intro p hp; cases hp)
    obtain ⟨m, hm, hmm⟩ := max_mem R0 hne
    obtain ⟨R1, h2⟩ := perm_out hm
    have hxm : q.2 ≤ m.2 := by
      rcases Nat.le_total q.2 m.2 with h | h
      · exact h
      · exact absurd (fun p hp => Nat.le_trans (hmm p hp) h) hx
    have hwm : q.1 ≤ m.1 := hw _ (h1.mem_iff.1 (List.mem_map.2 ⟨m, hm, rfl⟩))
    refine ⟨m.2, (m.1, q.2) :: R1, ?_, fun p hp => ?_, ⟨m, h0.mem_iff.2 (by simp [hm]), rfl⟩, fun p hp => ?_, ?_, ?_⟩
    · have := (h2.map Prod.fst).symm.trans h1
      rw [List.map_cons] at this ⊢
      exact this
    · rcases List.mem_cons.1 hp with rfl | hp
      · exact hxm
      · exact hmm p (h2.mem_iff.2 (by simp [hp]))
    · rcases List.mem_cons.1 hp with rfl | hp
      · exact ⟨q, hq, rfl⟩
      · exact ⟨p, h0.mem_iff.2 (by simp [h2.mem_iff.2 (List.mem_cons_of_mem _ hp)]), rfl⟩
    · rw [kraftP_perm N h0, kraftP_cons, kraftP_cons, kraftP_cons, kraftP_perm N h2, kraftP_cons]
      show 2 ^ (N - m.2) + (2 ^ (N - q.2) + _) = _
      omega
    · rw [costP_perm h0, costP_cons, costP_cons, costP_cons, costP_perm h2, costP_cons]
      show q.1 * m.2 + (m.1 * q.2 + _) ≤ _
      obtain ⟨u, hu⟩ := Nat.exists_eq_add_of_le hwm
      obtain ⟨v, hv⟩ := Nat.exists_eq_add_of_le hxm
      rw [hu, hv, Nat.mul_add, Nat.add_mul, Nat.add_mul, Nat.mul_add, Nat.mul_add]
      omega

theorem kraft_dvd {N M : Nat} : ∀ {R : List (Nat × Nat)}, (∀ p ∈ R, p.2 ≤ M) → 2 ^ (N - M) ∣ kraftP N R := by
  intro R
  induction R with
  | nil => intro _; exact Nat.dvd_zero _
  | cons a t ih =>
    intro h
    rw [kraftP_cons]
    refine Nat.dvd_add (Nat.pow_dvd_pow 2 ?_) (ih fun p hp => h p (by simp [hp]))
    have := h a (by simp)
    omega

theorem hcost_le (N : Nat) : ∀ (k : Nat) (gs : List Grp) (P : List (Nat × Nat)), gs.Pairwise gle → (P.map Prod.fst).Perm (gs.map Prod.fst) → (∀ p ∈ P, p.2 ≤ N) → kraftP N P ≤ 2 ^ N → hcost k gs ≤ costP P := by
  intro k
  induction k with
  | zero => intro gs P _ _ _ _; simp [hcost]
  | succ k ih =>
    intro gs P hs hp hN hk
    match gs, hs, hp with
    | [], _, _ => simp [hcost]
    | [g], _, _ => simp [hcost]
    | a :: b :: rest, hs, hp =>
      obtain ⟨hs1, hs2⟩ := List.pairwise_cons.1 hs
      obtain ⟨hs3, hs4⟩ := List.pairwise_cons.1 hs2
      have hfst : ∀ {x y : Grp}, gle x y → x.1 ≤ y.1 := fun h => by unfold gle at h; omega
      rw [List.map_cons] at hp
      obtain ⟨M, R, h1, h2, ⟨pm, hpm, epm⟩, h3, h4, h5⟩ := take_max N hp (fun v hv => by
        obtain ⟨g, hg, rfl⟩ := List.mem_map.1 hv
        exact hfst (hs1 g hg))
      rw [List.map_cons] at h1
      obtain ⟨M2, R2, k1, k2, ⟨qm, hqm, eqm⟩, k3, k4, k5⟩ := take_max N h1 (fun v hv => by
        obtain ⟨g, hg, rfl⟩ := List.mem_map.1 hv
        exact hfst (hs3 g hg))
      have hMN : M ≤ N := by have := hN pm hpm; omega
      have hM2 : M2 ≤ M := by have := h2 qm hqm; omega
      rw [kraftP_cons] at h4 k4
      rw [costP_cons] at h5 k5
      simp only at h4 k4 h5 k5
      have hpos : 0 < 2 ^ (N - M) := Nat.two_pow_pos _
      have hd : 2 ^ (N - M2) ∣ 2 ^ (N - M2) + kraftP N R2 := Nat.dvd_add (Nat.dvd_refl _) (kraft_dvd k2)
      have hd2 : 2 ^ (N - M2) ∣ 2 ^ N := Nat.pow_dvd_pow 2 (by omega)
      have hlt : 2 ^ (N - M2) + kraftP N R2 < 2 ^ N := by omega
      have hroom : 2 ^ (N - M2) + kraftP N R2 + 2 ^ (N - M2) ≤ 2 ^ N := by
        obtain ⟨u, hu⟩ := hd
        obtain ⟨v, hv⟩ := hd2
        rw [hu, hv] at hlt ⊢
        have : u < v := Nat.lt_of_mul_lt_mul_left hlt
        calc _ = 2 ^ (N - M2) * (u + 1) := by rw [Nat.mul_add, Nat.mul_one]
          _ ≤ _ := Nat.mul_le_mul_left _ this
      have hM1 : 1 ≤ M2 := by
        rcases Nat.eq_zero_or_pos M2 with h | h
        · subst h
          rw [Nat.sub_zero] at hlt
          omega
        · exact h
      have hhalf : 2 ^ (N - (M2 - 1)) = 2 ^ (N - M2) + 2 ^ (N - M2) := by
        rw [show N - (M2 - 1) = (N - M2) + 1 by omega, Nat.pow_succ]
        omega
      have := ih (gins (gmerge a b) rest) ((a.1 + b.1, M2 - 1) :: R2) (gins_sorted hs4) (by
        refine List.Perm.trans ?_ ((gins_perm (gmerge a b) rest).map Prod.fst).symm
        rw [List.map_cons, List.map_cons]
        exact k1.cons _) (fun p hp => by
        rcases List.mem_cons.1 hp with rfl | hp
        · show M2 - 1 ≤ N; omega
        · have := k2 p hp; omega) (by
        rw [kraftP_cons]
        show 2 ^ (N - (M2 - 1)) + _ ≤ _
        omega)
      rw [costP_cons] at this
      simp only at this
      show a.1 + b.1 + hcost k _ ≤ _
      have e1 : (a.1 + b.1) * (M2 - 1) + (a.1 + b.1) = a.1 * M2 + b.1 * M2 := by
        rw [← Nat.add_mul]
        obtain ⟨z, rfl⟩ : ∃ z, M2 = z + 1 := ⟨M2 - 1, by omega⟩
        rw [Nat.add_sub_cancel, Nat.mul_add, Nat.mul_one]
      have e2 : a.1 * M2 ≤ a.1 * M := Nat.mul_le_mul_left _ hM2
      omega

/-! what is said of the lengths -/
def kraftF (N : Nat) (x : Nat → Nat) (n : Nat) : Nat := ((List.range n).map fun i => 2 ^ (N - x i)).sum
theorem huff_best {c : Nat → Nat} {n N : Nat} (hn : n ≤ N + 1) (x : Nat → Nat) (hx : ∀ i, i < n → x i ≤ N) (hk : kraftF N x n ≤ 2 ^ N) : cost c (huff n (gstart c n) fun _ => 0) n ≤ cost c x n := by
  have h1 := huff_cost c n N n (gstart c n) (fun _ => 0) (good_start c n N) (fun i _ => by rw [gstart_len]; omega)
  have h2 := hcost_le N n (gstart c n) ((List.range n).map fun i => (c i, x i)) (gstart_sorted c n) (by
    refine List.Perm.trans ?_ ((gstart_perm c n).map Prod.fst).symm
    rw [List.map_map, List.map_map]
    exact List.Perm.refl _) (fun p hp => by
    obtain ⟨i, hi, rfl⟩ := List.mem_map.1 hp
    exact hx i (List.mem_range.1 hi)) (by
    unfold kraftP
    rw [List.map_map]
    exact hk)
  have h3 : cost c (fun _ => 0) n = 0 := by
    unfold cost
    induction List.range n with
    | nil => rfl
    | cons a t ih => rw [List.map_cons, List.sum_cons, ih]; rfl
  unfold costP at h2
  rw [List.map_map] at h2
  rw [h1, h3]
  unfold cost
  have : ((fun p : Nat × Nat => p.1 * p.2) ∘ fun i => (c i, x i)) = fun i => c i * x i := rfl
  rw [this] at h2
  omega
/-- of two counts and more: full, and none longer than there are others -/
theorem huff_full {c : Nat → Nat} {n N : Nat} (h2 : 2 ≤ n) (hn : n ≤ N + 1) :
    kraftF N (huff n (gstart c n) fun _ => 0) n = 2 ^ N ∧ ∀ i, i < n → 1 ≤ huff n (gstart c n) (fun _ => 0) i ∧ huff n (gstart c n) (fun _ => 0) i + 1 ≤ n := by
  have hl := gstart_len c n
  obtain ⟨g, hg, hd⟩ := huff_good c n N n (gstart c n) (fun _ => 0) (by omega) (by omega) (good_start c n N) (fun i _ => by rw [hl]; omega)
  generalize (huff n (gstart c n) fun _ => 0) = d at hg hd
  have hall := hg.all
  simp only [List.flatMap_cons, List.flatMap_nil, List.append_nil] at hall
  have hf := hg.full g (by simp)
  rw [sum_perm (hall.map _)] at hf
  refine ⟨hf, fun i hi => ⟨?_, by have := hd i hi; omega⟩⟩
  rcases Nat.eq_zero_or_pos (d i) with h | h
  · exfalso
    obtain ⟨r, hr⟩ := perm_out (List.mem_range.2 hi)
    have hlen := hr.length_eq
    rw [List.length_range, List.length_cons] at hlen
    obtain ⟨j, t, rfl⟩ : ∃ j t, r = j :: t := by
      cases r with
      | nil => simp at hlen; omega
      | cons j t => exact ⟨j, t, rfl⟩
    rw [sum_perm (hr.map _)] at hf
    simp only [List.map_cons, List.sum_cons, h, Nat.sub_zero] at hf
    have := Nat.two_pow_pos (N - d j)
    omega
  · exact h

/-- the lengths themselves -/
def lenD (c : Nat → Nat) (n : Nat) : Nat → Nat := if n = 1 then fun _ => 1 else huff n (gstart c n) fun _ => 0
theorem lenD_in {c : Nat → Nat} {n : Nat} (h1 : 1 ≤ n) (h2 : n ≤ 32) {i : Nat} (hi : i < n) : 1 ≤ lenD c n i ∧ lenD c n i ≤ 31 := by
  unfold lenD
  split
  · show 1 ≤ 1 ∧ 1 ≤ 31
    omega
  · have := (huff_full (c := c) (N := 40) (by omega) (by omega)).2 i hi
    omega
theorem lenD_kraft {c : Nat → Nat} {n : Nat} (h1 : 1 ≤ n) (h2 : n ≤ 32) : kraftF 40 (lenD c n) n ≤ 2 ^ 40 := by
  unfold lenD
  split
  · rename_i h
    subst h
    decide
  · exact Nat.le_of_eq (huff_full (c := c) (N := 40) (by omega) (by omega)).1
theorem lenD_best {c : Nat → Nat} {n : Nat} (h1 : 1 ≤ n) (h2 : n ≤ 32) (x : Nat → Nat) (hx : ∀ i, i < n → 1 ≤ x i ∧ x i ≤ 40) (hk : kraftF 40 x n ≤ 2 ^ 40) : cost c (lenD c n) n ≤ cost c x n := by
  unfold lenD
  split
  · rename_i h
    subst h
    have := (hx 0 (by omega)).1
    unfold cost
    simp [List.range_succ]
    exact Nat.le_mul_of_pos_right _ this
  · exact huff_best (by omega) x (fun i hi => (hx i hi).2) hk
/-- who is counted more has no longer one -/
theorem lenD_mono {c : Nat → Nat} {n : Nat} (h1 : 1 ≤ n) (h2 : n ≤ 32) {i k : Nat} (hi : i < n) (hk : k < n) (hc : c k < c i) : lenD c n i ≤ lenD c n k := by
  rcases Nat.lt_or_ge (lenD c n k) (lenD c n i) with h | h
  · exfalso
    have hb := lenD_best (c := c) h1 h2
    have hin : ∀ j, j < n → 1 ≤ lenD c n j ∧ lenD c n j ≤ 31 := fun j hj => lenD_in h1 h2 hj
    have hkr := lenD_kraft (c := c) h1 h2
    generalize lenD c n = d at h hb hin hkr
    have hik : i ≠ k := fun e => by subst e; omega
    obtain ⟨r, hr⟩ := perm_out (List.mem_range.2 hi)
    obtain ⟨s, hs⟩ := perm_out (show k ∈ r by
      have := hr.mem_iff.1 (List.mem_range.2 hk)
      rcases List.mem_cons.1 this with e | e
      · exact absurd e.symm hik
      · exact e)
    have hp : (List.range n).Perm (i :: k :: s) := hr.trans (hs.cons i)
    have hnd : (i :: k :: s).Nodup := (hp.nodup_iff).1 List.nodup_range
    have hi2 : i ∉ s := fun e => (List.nodup_cons.1 hnd).1 (List.mem_cons_of_mem _ e)
    have hk2 : k ∉ s := (List.nodup_cons.1 (List.nodup_cons.1 hnd).2).1
    have hx := hb (fun j => if j = i then d k else if j = k then d i else d j) (fun j hj => by
      have h3 := hin j hj
      have h4 := hin i hi
      have h5 := hin k hk
      show 1 ≤ (if j = i then d k else if j = k then d i else d j) ∧ (if j = i then d k else if j = k then d i else d j) ≤ 40
      split
      · omega
      · split <;> omega) (by
      unfold kraftF at hkr ⊢
      rw [sum_perm (hp.map _)] at hkr ⊢
      simp only [List.map_cons, List.sum_cons, if_true, if_neg (Ne.symm hik)] at hkr ⊢
      have : (s.map fun j => 2 ^ (40 - (if j = i then d k else if j = k then d i else d j))).sum = (s.map fun j => 2 ^ (40 - d j)).sum := sum_map_congr fun j hj => by
        rw [if_neg (fun e : j = i => hi2 (e ▸ hj)), if_neg (fun e : j = k => hk2 (e ▸ hj))]
      rw [this]
      omega)
    unfold cost at hx
    rw [sum_perm (hp.map _), sum_perm (hp.map _)] at hx
    simp only [List.map_cons, List.sum_cons, if_true, if_neg (Ne.symm hik)] at hx
    have : (s.map fun j => c j * (if j = i then d k else if j = k then d i else d j)).sum = (s.map fun j => c j * d j).sum := sum_map_congr fun j hj => by
      rw [if_neg (fun e : j = i => hi2 (e ▸ hj)), if_neg (fun e : j = k => hk2 (e ▸ hj))]
    rw [this] at hx
    obtain ⟨u, hu, hu0⟩ : ∃ u, c i = c k + u ∧ 0 < u := ⟨c i - c k, by omega, by omega⟩
    obtain ⟨v, hv, hv0⟩ : ∃ v, d i = d k + v ∧ 0 < v := ⟨d i - d k, by omega, by omega⟩
    have e1 : c i * d i = c k * d k + c k * v + (u * d k + u * v) := by rw [hu, hv, Nat.add_mul, Nat.mul_add, Nat.mul_add]
    have e2 : c i * d k = c k * d k + u * d k := by rw [hu, Nat.add_mul]
    have e3 : c k * d i = c k * d k + c k * v := by rw [hv, Nat.mul_add]
    have e4 : 0 < u * v := Nat.mul_pos hu0 hv0
    omega
  · exact h
def total (c : Nat → Nat) (n : Nat) : Nat := ((List.range n).map c).sum
theorem sum_le {α : Type} {l : List α} {f g : α → Nat} (h : ∀ x ∈ l, f x ≤ g x) : (l.map f).sum ≤ (l.map g).sum := by
  induction l with
  | nil => exact Nat.le_refl _
  | cons a t ih =>
    have h1 := h a (by simp)
    have h2 := ih fun x hx => h x (by simp [hx])
    simp
    omega
theorem sum_const {α : Type} (l : List α) (v : Nat) : (l.map fun _ => v).sum = l.length * v := by
  induction l with
  | nil => simp
  | cons a t ih => rw [List.map_cons, List.sum_cons, ih, List.length_cons, Nat.add_mul, Nat.one_mul]; omega
theorem cost_low {c x : Nat → Nat} {n : Nat} (hx : ∀ i, i < n → 1 ≤ x i) : total c n ≤ cost c x n := sum_le fun i hi => Nat.le_mul_of_pos_right _ (hx i (List.mem_range.1 hi))
theorem cost_const (c : Nat → Nat) (n m : Nat) : cost c (fun _ => m) n = total c n * m := by
  unfold cost total
  induction List.range n with
  | nil => simp
  | cons a t ih => rw [List.map_cons, List.sum_cons, ih, List.map_cons, List.sum_cons, Nat.add_mul]
/-- no more than codes that are all as long as they must -/
theorem lenD_fixed {c : Nat → Nat} {n m : Nat} (h1 : 1 ≤ n) (h2 : n ≤ 32) (hm : 1 ≤ m) (hm2 : m ≤ 40) (hn : n ≤ 2 ^ m) : cost c (lenD c n) n ≤ total c n * m := by
  rw [← cost_const]
  refine lenD_best h1 h2 _ (fun _ _ => ⟨hm, hm2⟩) ?_
  unfold kraftF
  rw [sum_const, List.length_range]
  calc n * 2 ^ (40 - m) ≤ 2 ^ m * 2 ^ (40 - m) := Nat.mul_le_mul_right _ hn
    _ = 2 ^ 40 := by rw [← Nat.pow_add, show m + (40 - m) = 40 by omega]
/-- of one more count all cost more -/
theorem lenD_more {c c' : Nat → Nat} {n : Nat} (h1 : 1 ≤ n) (h2 : n < 32) (hc : ∀ i, i < n → c' i = c i) (hn : 1 ≤ c' n) : cost c (lenD c n) n < cost c' (lenD c' (n + 1)) (n + 1) := by
  have hin : ∀ j, j < n + 1 → 1 ≤ lenD c' (n + 1) j ∧ lenD c' (n + 1) j ≤ 31 := fun j hj => lenD_in (by omega) (by omega) hj
  have hkr := lenD_kraft (c := c') (n := n + 1) (by omega) (by omega)
  generalize lenD c' (n + 1) = x at hin hkr ⊢
  have e : cost c' x (n + 1) = cost c x n + c' n * x n := by
    unfold cost
    rw [List.range_succ, List.map_append, List.sum_append, List.map_singleton, List.sum_singleton]
    rw [sum_map_congr (g := fun i => c i * x i) fun i hi => by rw [hc i (List.mem_range.1 hi)]]
  have hk : kraftF 40 x n ≤ 2 ^ 40 := by
    unfold kraftF at hkr ⊢
    rw [List.range_succ, List.map_append, List.sum_append] at hkr
    omega
  have := lenD_best (c := c) h1 (by omega) x (fun i hi => by have := hin i (by omega); omega) hk
  have h3 : 0 < c' n * x n := Nat.mul_pos hn (hin n (by omega)).1
  omega

end Go.Proofs.Ytgcpdifggjkdhab.Huff
