/- THE RING, over lists of dots: whose a key is (Owner, Owners), without a node, a dot more; that few move. It speaks of no function of the program. -/
import Derived.Test.YtidmaaglfckcbapDoorDots
import Derived.Test.YtidmaaglfckcbapDoorBelList
namespace Go.Proofs.YtidmaaglfckcbapDoor
set_option linter.unusedVariables false
abbrev DotP (p : Dt) : Prop := (0 ≤ p.1 ∧ p.1 ≤ 65535) ∧ 0 ≤ p.2 ∧ p.2 ≤ 15
abbrev RingP (l : List Dt) : Prop := (1 ≤ l.length ∧ l.length ≤ 128) ∧ (∀ p ∈ l, DotP p) ∧ l.Pairwise (fun a b => a.1 < b.1)
/-- from the first dot at m or behind it on, round the ring -/
def rotL (l : List Dt) (m : Int) : List Dt := l.filter (fun p => decide (m ≤ p.1)) ++ l.filter (fun p => decide (p.1 < m))
def ownT (l : List Dt) (key : Int) : Int := if RingP l ∧ 0 ≤ key then ((rotL l (key % 65536)).headD dt0).2 else -1
def ownersT (l : List Dt) (key n : Int) : List Int := if RingP l ∧ 0 ≤ key ∧ 1 ≤ n then (distK ((rotL l (key % 65536)).map (·.2)) []).take n.toNat else []
def withoutT (l : List Dt) (node : Int) : List Dt := if RingP l then l.filter (fun p => decide (p.2 ≠ node)) else []
/-- the number of the first dot at m or behind it; 0 where there is none -/
def firstI (l : List Dt) (m : Int) : Nat := (l.findIdx? (fun p => decide (m ≤ p.1))).getD 0
theorem rot_len (l : List Dt) (m : Int) : (rotL l m).length = l.length := by
  unfold rotL
  rw [List.length_append]
  induction l with
  | nil => rfl
  | cons p t ih =>
    by_cases h : m ≤ p.1
    · rw [List.filter_cons_of_pos (by simpa using h), List.filter_cons_of_neg (by simp; omega), List.length_cons, List.length_cons]
      omega
    · rw [List.filter_cons_of_neg (by simpa using h), List.filter_cons_of_pos (by simp; omega), List.length_cons, List.length_cons]
      omega
theorem rot_perm (l : List Dt) (m : Int) : (rotL l m).Perm l := by
  unfold rotL
  have h := List.filter_append_perm (fun p : Dt => decide (m ≤ p.1)) l
  have e : l.filter (fun p => decide (p.1 < m)) = l.filter (fun p => !decide (m ≤ p.1)) := by
    apply List.filter_congr
    intro p _
    by_cases h : m ≤ p.1
    · rw [decide_eq_true h, decide_eq_false (by omega)]; rfl
    · rw [decide_eq_false h, decide_eq_true (by omega)]; rfl
  rw [e]
  exact h
theorem rot_filter (p : Dt → Bool) (l : List Dt) (m : Int) : rotL (l.filter p) m = (rotL l m).filter p := by
  unfold rotL
  rw [List.filter_append, List.filter_filter, List.filter_filter, List.filter_filter, List.filter_filter]
  congr 1 <;> (apply List.filter_congr; intro x _; rw [Bool.and_comm])
theorem sorted_split {l : List Dt} (hs : l.Pairwise (fun a b => a.1 < b.1)) {m : Int} {i : Nat} (hi : i < l.length) (h1 : m ≤ (l.getD i dt0).1) (h2 : ∀ j, j < i → (l.getD j dt0).1 < m) : rotL l m = l.drop i ++ l.take i := by
  have hp := List.pairwise_iff_getElem.1 hs
  have ha : ∀ x ∈ l.take i, x.1 < m := fun x hx => by
    obtain ⟨j, hj, e⟩ := List.getElem_of_mem hx
    rw [List.length_take] at hj
    rw [List.getElem_take] at e
    have h9 := h2 j (by omega)
    rw [getD_dt (by omega), e] at h9
    exact h9
  have hb : ∀ x ∈ l.drop i, m ≤ x.1 := fun x hx => by
    obtain ⟨j, hj, e⟩ := List.getElem_of_mem hx
    rw [List.length_drop] at hj
    rw [List.getElem_drop] at e
    rw [getD_dt hi] at h1
    by_cases h0 : j = 0
    · subst h0
      rw [← e]
      exact h1
    · have h9 := hp i (i + j) hi (by omega) (by omega)
      rw [e] at h9
      omega
  unfold rotL
  have e : l = l.take i ++ l.drop i := (List.take_append_drop i l).symm
  have e1 : l.filter (fun p => decide (m ≤ p.1)) = l.drop i := by
    conv => lhs; rw [e]
    rw [List.filter_append, List.filter_eq_nil_iff.2 (fun x hx => by have := ha x hx; simp; omega), List.filter_eq_self.2 (fun x hx => by have := hb x hx; simpa using this), List.nil_append]
  have e2 : l.filter (fun p => decide (p.1 < m)) = l.take i := by
    conv => lhs; rw [e]
    rw [List.filter_append, List.filter_eq_self.2 (fun x hx => by have := ha x hx; simpa using this), List.filter_eq_nil_iff.2 (fun x hx => by have := hb x hx; simp; omega), List.append_nil]
  rw [e1, e2]
theorem rot_none {l : List Dt} {m : Int} (h : ∀ j, j < l.length → (l.getD j dt0).1 < m) : rotL l m = l := by
  have ha : ∀ x ∈ l, x.1 < m := fun x hx => by
    obtain ⟨j, hj, e⟩ := List.getElem_of_mem hx
    have h9 := h j hj
    rw [getD_dt hj, e] at h9
    exact h9
  unfold rotL
  rw [List.filter_eq_nil_iff.2 (fun x hx => by have := ha x hx; simp; omega), List.filter_eq_self.2 (fun x hx => by have := ha x hx; simpa using this), List.nil_append]
/-- where the walk over a ring begins: FirstAt l m i -/
def FirstAt (l : List Dt) (m : Int) (i : Nat) : Prop := i < l.length ∧ ((m ≤ (l.getD i dt0).1 ∧ ∀ j, j < i → (l.getD j dt0).1 < m) ∨ (i = 0 ∧ ∀ j, j < l.length → (l.getD j dt0).1 < m))
theorem first_rot {l : List Dt} {m : Int} {i : Nat} (hs : l.Pairwise (fun a b => a.1 < b.1)) (h : FirstAt l m i) : rotL l m = l.drop i ++ l.take i := by
  obtain ⟨hi, ⟨h1, h2⟩ | ⟨h1, h2⟩⟩ := h
  · exact sorted_split hs hi h1 h2
  · subst h1
    rw [rot_none h2]
    simp
theorem first_head {l : List Dt} {m : Int} {i : Nat} (hs : l.Pairwise (fun a b => a.1 < b.1)) (h : FirstAt l m i) : (rotL l m).headD dt0 = l.getD i dt0 := by
  have hi := h.1
  have e := getD_dt hi
  rw [first_rot hs h, List.drop_eq_getElem_cons hi, e]
  rfl
theorem getD_snd {L : List Dt} {k : Nat} (h : k < L.length) : (L.map (·.2)).getD k 0 = L[k].2 := by simp [List.getD, h]
theorem first_at {l : List Dt} {m : Int} {i : Nat} (hs : l.Pairwise (fun a b => a.1 < b.1)) (h : FirstAt l m i) {k : Nat} (hk : k < l.length) : ((rotL l m).map (·.2)).getD k 0 = (l.getD ((i + k) % l.length) dt0).2 := by
  have hi := h.1
  have hlt : (i + k) % l.length < l.length := Nat.mod_lt _ (by omega)
  rw [getD_dt hlt]
  have hl : (l.drop i ++ l.take i).length = l.length := by rw [List.length_append, List.length_drop, List.length_take]; omega
  rw [first_rot hs h]
  have e : ((l.drop i ++ l.take i).map (·.2)).getD k 0 = ((l.drop i ++ l.take i)[k]'(by omega)).2 := getD_snd (by omega)
  rw [e]
  by_cases hk2 : k < l.length - i
  · rw [List.getElem_append_left (by rw [List.length_drop]; omega), List.getElem_drop]
    have e9 : (i + k) % l.length = i + k := Nat.mod_eq_of_lt (by omega)
    simp only [e9]
  · rw [List.getElem_append_right (by rw [List.length_drop]; omega), List.getElem_take]
    have e9 : (i + k) % l.length = k - (l.drop i).length := by
      rw [List.length_drop, Nat.mod_eq_sub_mod (by omega), Nat.mod_eq_of_lt (by omega)]
      omega
    simp only [e9]
theorem ring_no {l : List Dt} {i : Nat} (hi : i < l.length) (h : ¬ (DotP (l.getD i dt0) ∧ (i = 0 ∨ (l.getD (i - 1) dt0).1 < (l.getD i dt0).1))) : ¬ RingP l := fun hr => by
  apply h
  rw [getD_dt hi]
  refine ⟨hr.2.1 _ (List.getElem_mem hi), ?_⟩
  by_cases h0 : i = 0
  · exact Or.inl h0
  · refine Or.inr ?_
    rw [getD_dt (show i - 1 < l.length by omega)]
    exact List.pairwise_iff_getElem.1 hr.2.2 (i - 1) i (by omega) hi (by omega)
theorem ring_yes {l : List Dt} (hl : 1 ≤ l.length ∧ l.length ≤ 128) (h : ∀ i, i < l.length → (DotP (l.getD i dt0) ∧ (i = 0 ∨ (l.getD (i - 1) dt0).1 < (l.getD i dt0).1))) : RingP l := by
  refine ⟨hl, fun p hp => ?_, ?_⟩
  · obtain ⟨i, hi, rfl⟩ := List.getElem_of_mem hp
    have h9 := (h i hi).1
    rwa [getD_dt hi] at h9
  · have hstep : ∀ d i, i + d + 1 < l.length → (l.getD i dt0).1 < (l.getD (i + d + 1) dt0).1 := fun d => by
      induction d with
      | zero =>
        intro i hi
        rcases (h (i + 1) hi).2 with h9 | h9
        · omega
        · exact h9
      | succ d ih =>
        intro i hi
        have h1 := ih i (by omega)
        rcases (h (i + (d + 1) + 1) hi).2 with h9 | h9
        · omega
        · have e : i + (d + 1) + 1 - 1 = i + d + 1 := by omega
          rw [e] at h9
          omega
    refine List.pairwise_iff_getElem.2 fun i j hi hj hij => ?_
    have h9 := hstep (j - i - 1) i (by omega)
    rw [show i + (j - i - 1) + 1 = j by omega, getD_dt hi, getD_dt hj] at h9
    exact h9
/-- a dot more, where there is none yet at its place -/
def insD : List Dt → Dt → List Dt
  | [], p => [p]
  | q :: t, p => if q.1 < p.1 then q :: insD t p else if q.1 = p.1 then q :: t else p :: q :: t
theorem insD_mem {l : List Dt} {p x : Dt} (h : x ∈ insD l p) : x ∈ l ∨ x = p := by
  induction l with
  | nil => exact Or.inr (List.mem_singleton.1 h)
  | cons q t ih =>
    rw [insD] at h
    split at h
    · rcases List.mem_cons.1 h with h | h
      · exact Or.inl (h ▸ List.mem_cons_self)
      · rcases ih h with h | h
        · exact Or.inl (List.mem_cons_of_mem _ h)
        · exact Or.inr h
    · split at h
      · exact Or.inl h
      · rcases List.mem_cons.1 h with h | h
        · exact Or.inr h
        · exact Or.inl h
theorem insD_old {l : List Dt} {p x : Dt} (h : x ∈ l) : x ∈ insD l p := by
  induction l with
  | nil => cases h
  | cons q t ih =>
    rw [insD]
    split
    · rcases List.mem_cons.1 h with h | h
      · exact h ▸ List.mem_cons_self
      · exact List.mem_cons_of_mem _ (ih h)
    · split
      · exact h
      · exact List.mem_cons_of_mem _ h
theorem insD_sorted {l : List Dt} {p : Dt} (h : l.Pairwise (fun a b => a.1 < b.1)) : (insD l p).Pairwise (fun a b => a.1 < b.1) := by
  induction l with
  | nil => exact List.pairwise_singleton _ _
  | cons q t ih =>
    obtain ⟨h1, h2⟩ := List.pairwise_cons.1 h
    rw [insD]
    split
    · rename_i hlt
      refine List.pairwise_cons.2 ⟨fun x hx => ?_, ih h2⟩
      rcases insD_mem hx with hx | hx
      · exact h1 x hx
      · rw [hx]; exact hlt
    · split
      · exact h
      · rename_i h3 h4
        refine List.pairwise_cons.2 ⟨fun x hx => ?_, h⟩
        rcases List.mem_cons.1 hx with hx | hx
        · rw [hx]; omega
        · have := h1 x hx
          omega
theorem insD_len (l : List Dt) (p : Dt) : (insD l p).length ≤ l.length + 1 ∧ l.length ≤ (insD l p).length ∧ 1 ≤ (insD l p).length := by
  induction l with
  | nil => simp [insD]
  | cons q t ih =>
    rw [insD]
    split
    · simp only [List.length_cons]; omega
    · split <;> simp only [List.length_cons] <;> omega
/-- whoever has the head: as it was, or the new one -/
theorem insD_filter_ge {l : List Dt} {p : Dt} {m : Int} (h : l.Pairwise (fun a b => a.1 < b.1)) (hm : ¬ m ≤ p.1) : (insD l p).filter (fun x => decide (m ≤ x.1)) = l.filter (fun x => decide (m ≤ x.1)) := by
  induction l with
  | nil => simp [insD, hm]
  | cons q t ih =>
    obtain ⟨h1, h2⟩ := List.pairwise_cons.1 h
    rw [insD]
    split
    · rw [List.filter_cons, List.filter_cons, ih h2]
    · split
      · rfl
      · rw [List.filter_cons_of_neg (by simpa using hm)]
theorem insD_filter_lt {l : List Dt} {p : Dt} {m : Int} (h : l.Pairwise (fun a b => a.1 < b.1)) (hm : ¬ p.1 < m) : (insD l p).filter (fun x => decide (x.1 < m)) = l.filter (fun x => decide (x.1 < m)) := by
  induction l with
  | nil => simp [insD, hm]
  | cons q t ih =>
    obtain ⟨h1, h2⟩ := List.pairwise_cons.1 h
    rw [insD]
    split
    · rw [List.filter_cons, List.filter_cons, ih h2]
    · split
      · rfl
      · rw [List.filter_cons_of_neg (by simpa using hm)]
theorem insD_head {l : List Dt} {p : Dt} (q : Dt → Bool) (hq : q p = true) : ((insD l p).filter q).headD dt0 = (l.filter q).headD dt0 ∧ l.filter q ≠ [] ∨ ((insD l p).filter q).headD dt0 = p ∧ (insD l p).filter q ≠ [] ∨ ∃ x ∈ l, x.1 = p.1 ∧ insD l p = l := by
  induction l with
  | nil => exact Or.inr (Or.inl ⟨by simp [insD, hq], by simp [insD, hq]⟩)
  | cons y t ih =>
    rw [insD]
    split
    · by_cases hy : q y = true
      · rw [List.filter_cons_of_pos hy, List.filter_cons_of_pos hy]
        exact Or.inl ⟨rfl, by simp⟩
      · rw [List.filter_cons_of_neg hy, List.filter_cons_of_neg hy]
        rcases ih with h | h | ⟨x, hx, h1, h2⟩
        · exact Or.inl h
        · exact Or.inr (Or.inl h)
        · exact Or.inr (Or.inr ⟨x, List.mem_cons_of_mem _ hx, h1, by rw [h2]⟩)
    · split
      · rename_i h3
        exact Or.inr (Or.inr ⟨y, List.mem_cons_self, h3, rfl⟩)
      · exact Or.inr (Or.inl ⟨by rw [List.filter_cons_of_pos hq]; rfl, by rw [List.filter_cons_of_pos hq]; simp⟩)
theorem head_app {a b : List Dt} (h : a ≠ []) : (a ++ b).headD dt0 = a.headD dt0 := by
  cases a with
  | nil => exact absurd rfl h
  | cons x t => rfl
/-- with one dot more: owned as before, or by that one -/
theorem ins_owner {l : List Dt} {p : Dt} {m : Int} (h : l.Pairwise (fun a b => a.1 < b.1)) : (rotL (insD l p) m).headD dt0 = p ∨ (l ≠ [] ∧ (rotL (insD l p) m).headD dt0 = (rotL l m).headD dt0) := by
  by_cases hm : m ≤ p.1
  · have e2 := insD_filter_lt (m := m) h (p := p) (by omega)
    unfold rotL
    rw [e2]
    rcases insD_head (l := l) (fun x => decide (m ≤ x.1)) (p := p) (by simpa using hm) with ⟨h1, h2⟩ | ⟨h1, h2⟩ | ⟨x, hx, h1, h2⟩
    · refine Or.inr ⟨fun e => h2 (by rw [e]; rfl), ?_⟩
      rw [head_app h2, ← h1]
      refine head_app fun e => ?_
      obtain ⟨y, hy⟩ := List.exists_mem_of_ne_nil _ h2
      obtain ⟨hy1, hy2⟩ := List.mem_filter.1 hy
      have h9 : y ∈ (insD l p).filter (fun x => decide (m ≤ x.1)) := List.mem_filter.2 ⟨insD_old hy1, hy2⟩
      rw [e] at h9
      cases h9
    · exact Or.inl (by rw [head_app h2, h1])
    · refine Or.inr ⟨(fun e => by rw [e] at hx; cases hx), by rw [h2]⟩
  · have e1 := insD_filter_ge (m := m) h (p := p) hm
    unfold rotL
    rw [e1]
    by_cases hn : l.filter (fun x => decide (m ≤ x.1)) = []
    · rw [hn, List.nil_append, List.nil_append]
      rcases insD_head (l := l) (fun x => decide (x.1 < m)) (p := p) (by simp; omega) with ⟨h1, h2⟩ | ⟨h1, _⟩ | ⟨x, hx, h1, h2⟩
      · exact Or.inr ⟨fun e => h2 (by rw [e]; rfl), h1⟩
      · exact Or.inl h1
      · exact Or.inr ⟨(fun e => by rw [e] at hx; cases hx), by rw [h2]⟩
    · refine Or.inr ⟨fun e => hn (by rw [e]; rfl), ?_⟩
      rw [head_app hn, head_app hn]
/-- the unlike nodes from a dot on: the first is the head's -/
theorem dist_keep : ∀ (c o : List Int), (distK c o).take o.length = o
  | [], o => by show o.take o.length = o; exact List.take_length
  | q :: cs, o => by
    by_cases h : q ∈ o
    · rw [distK_old h]; exact dist_keep cs o
    · rw [distK_new h]
      have h9 := dist_keep cs (o ++ [q])
      have e := congrArg (List.take o.length) h9
      rw [List.take_take, Nat.min_eq_left (by simp), List.take_left] at e
      exact e
theorem dist_le : ∀ (c o : List Int), (distK c o).length ≤ o.length + c.length
  | [], o => Nat.le_refl _
  | q :: cs, o => by
    by_cases h : q ∈ o
    · rw [distK_old h]
      have := dist_le cs o
      rw [List.length_cons]; omega
    · rw [distK_new h]
      have := dist_le cs (o ++ [q])
      rw [List.length_append, List.length_singleton] at this
      rw [List.length_cons]; omega
theorem dist_nodup : ∀ (c o : List Int), o.Nodup → (distK c o).Nodup
  | [], o, h => h
  | q :: cs, o, h => by
    by_cases hq : q ∈ o
    · rw [distK_old hq]; exact dist_nodup cs o h
    · rw [distK_new hq]
      exact dist_nodup cs (o ++ [q]) (List.nodup_append.2 ⟨h, by simp, fun a ha b hb e => by rw [List.mem_singleton.1 hb] at e; rw [e] at ha; exact hq ha⟩)
theorem dist_mem : ∀ (c o : List Int) (z : Int), z ∈ distK c o ↔ z ∈ o ∨ z ∈ c
  | [], o, z => by show z ∈ o ↔ _; simp
  | q :: cs, o, z => by
    by_cases hq : q ∈ o
    · rw [distK_old hq, dist_mem cs o z, List.mem_cons]
      constructor
      · rintro (h | h)
        · exact Or.inl h
        · exact Or.inr (Or.inr h)
      · rintro (h | h | h)
        · exact Or.inl h
        · exact Or.inl (h ▸ hq)
        · exact Or.inr h
    · rw [distK_new hq, dist_mem cs (o ++ [q]) z, List.mem_append, List.mem_singleton, List.mem_cons]
      constructor
      · rintro ((h | h) | h)
        · exact Or.inl h
        · exact Or.inr (Or.inl h)
        · exact Or.inr (Or.inr h)
      · rintro (h | h | h)
        · exact Or.inl (Or.inl h)
        · exact Or.inl (Or.inr h)
        · exact Or.inr h
/-- behind a head that is g: the next one is the first that is not g -/
theorem dist_next (g : Int) : ∀ (c : List Int), (distK c [g]).length = 1 ∧ c.filter (fun x => decide (x ≠ g)) = [] ∨ ∃ y r, distK c [g] = g :: y :: r ∧ (c.filter (fun x => decide (x ≠ g))).headD 0 = y ∧ c.filter (fun x => decide (x ≠ g)) ≠ []
  | [] => Or.inl ⟨rfl, rfl⟩
  | q :: cs => by
    by_cases hq : q = g
    · rw [distK_old (by simp [hq]), List.filter_cons_of_neg (by simp [hq])]
      exact dist_next g cs
    · rw [distK_new (by simp [hq]), List.filter_cons_of_pos (by simp [hq])]
      refine Or.inr ⟨q, (distK cs [g, q]).drop 2, ?_, rfl, by simp⟩
      have h9 : (distK cs [g, q]).take 2 = [g, q] := dist_keep cs [g, q]
      have e := List.take_append_drop 2 (distK cs [g, q])
      rw [h9] at e
      exact e.symm
end Go.Proofs.YtidmaaglfckcbapDoor
