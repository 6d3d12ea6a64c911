/- THE MATHEMATICS of a heap of groups: which items stand for which groups. -/
import Derived.Test.YtgcpdifggjkdhabHeapM
import Derived.Test.YtgcpdifggjkdhabHuffMath
namespace Go.Proofs.Ytgcpdifggjkdhab
set_option linter.unusedVariables false
abbrev PG := It × Huff.Grp
/-- an item tells its group's count and first number -/
def Tells (p : PG) : Prop := p.1.1 = p.2.1 ∧ p.1.2.1 = p.2.2.1
theorem perm_lift {α β : Type} (f : α → β) {l1 l2 : List β} (h : l1.Perm l2) : ∀ ps : List α, ps.map f = l2 → ∃ qs : List α, qs.map f = l1 ∧ qs.Perm ps := by
  induction h with
  | nil => intro ps e; exact ⟨ps, e, List.Perm.refl _⟩
  | cons x _ ih =>
    intro ps e
    cases ps with
    | nil => simp at e
    | cons p ps =>
      simp at e
      obtain ⟨qs, h1, h2⟩ := ih ps e.2
      exact ⟨p :: qs, by simp [h1, e.1], h2.cons p⟩
  | swap x y l =>
    intro ps e
    match ps, e with
    | p :: q :: ps, e =>
      simp at e
      exact ⟨q :: p :: ps, by simp [e.1, e.2.1, e.2.2], List.Perm.swap _ _ _⟩
  | trans _ _ h1 h2 =>
    intro ps e
    obtain ⟨qs, a, b⟩ := h2 ps e
    obtain ⟨rs, c, d⟩ := h1 qs a
    exact ⟨rs, c, d.trans b⟩
/-- what stands at each step of Lengths -/
structure Inv6 (c : Nat → Nat) (n : Nat) (H : Nat → Nat) (m : Nat) (gs : List Huff.Grp) (d : Nat → Nat) : Prop where
  good : Huff.Good c n 40 gs d
  first : ∀ g ∈ gs, g.2.1 ∈ g.2.2
  fin : H = Huff.huff m gs d
  len : gs.length = m
  dle : ∀ i, i < n → d i + m ≤ n
theorem inv6_start (c : Nat → Nat) (n : Nat) : Inv6 c n (Huff.huff n (Huff.gstart c n) fun _ => 0) n (Huff.gstart c n) (fun _ => 0) :=
  ⟨Huff.good_start c n 40, fun g hg => by
    obtain ⟨i, _, e⟩ := List.mem_map.1 ((Huff.gstart_perm c n).mem_iff.1 hg)
    rw [← e]; simp, rfl, Huff.gstart_len c n, fun i hi => by simp⟩
theorem inv6_end {c : Nat → Nat} {n : Nat} {H d : Nat → Nat} {m : Nat} {gs : List Huff.Grp} (h : Inv6 c n H m gs d) (hm : m ≤ 1) : H = d := by
  have hl := h.len
  rw [h.fin]
  match m, gs, hl with
  | 0, [], _ => rfl
  | 1, [g], _ => rfl
theorem sum_len {c : Nat → Nat} {K : Nat} : ∀ l : List Nat, (∀ i ∈ l, c i ≤ K) → (l.map c).sum ≤ l.length * K := by
  intro l
  induction l with
  | nil => intro _; simp
  | cons a t ih =>
    intro h
    have h1 := h a (by simp)
    have h2 := ih (fun i hi => h i (by simp [hi]))
    simp only [List.map_cons, List.sum_cons, List.length_cons, Nat.succ_mul]
    omega
theorem inv6_two {c : Nat → Nat} {n : Nat} {H d : Nat → Nat} {m : Nat} {A B : Huff.Grp} {rest : List Huff.Grp} (h : Inv6 c n H (m + 1) (A :: B :: rest) d) (hn : n ≤ 32) (hm : 1 ≤ m) (hc : ∀ i, i < n → c i ≤ 100000) :
    (A.2.2 ++ B.2.2).Nodup ∧ (∀ i ∈ A.2.2 ++ B.2.2, i < n) ∧ (A.2.2 ++ B.2.2).length ≤ n ∧ 0 < A.2.2.length ∧ 0 < B.2.2.length ∧ A.1 + B.1 ≤ 3200000 ∧ A.2.1 < n ∧ B.2.1 < n ∧ Inv6 c n H m (Huff.gins (Huff.gmerge A B) rest) (Huff.bump d (A.2.2 ++ B.2.2)) := by
  have hall : ((A.2.2 ++ B.2.2) ++ rest.flatMap fun g => g.2.2).Perm (List.range n) := by
    have := h.good.all
    simp only [List.flatMap_cons] at this
    rwa [← List.append_assoc] at this
  have hin : ∀ i ∈ A.2.2 ++ B.2.2, i < n := fun i hi => List.mem_range.1 (hall.mem_iff.1 (List.mem_append_left _ hi))
  have hnd : (A.2.2 ++ B.2.2).Nodup := (List.nodup_append.1 ((hall.nodup_iff).2 List.nodup_range)).1
  have hle : (A.2.2 ++ B.2.2).length ≤ n := by
    have := hall.length_eq
    rw [List.length_append, List.length_range] at this
    omega
  have h1 := h.good.sums A (by simp)
  have h2 := h.good.sums B (by simp)
  have h3 := sum_len (c := c) (K := 100000) (A.2.2 ++ B.2.2) (fun i hi => hc i (hin i hi))
  rw [List.map_append, List.sum_append, ← h1, ← h2] at h3
  have f1 := h.first A (by simp)
  have f2 := h.first B (by simp)
  have hlen := h.len
  simp only [List.length_cons] at hlen
  refine ⟨hnd, hin, hle, List.length_pos_iff.2 (h.good.some A (by simp)), List.length_pos_iff.2 (h.good.some B (by simp)), by omega, hin _ (by simp [f1]), hin _ (by simp [f2]), ?_⟩
  refine ⟨Huff.good_step h.good (fun i hi => by have := h.dle i hi; omega), fun g hg => ?_, ?_, by rw [Huff.gins_len]; omega, fun i hi => ?_⟩
  · rcases List.mem_cons.1 ((Huff.gins_perm _ _).mem_iff.1 hg) with rfl | hg
    · show min A.2.1 B.2.1 ∈ A.2.2 ++ B.2.2
      rcases Nat.le_total A.2.1 B.2.1 with k | k
      · rw [Nat.min_eq_left k]; simp [f1]
      · rw [Nat.min_eq_right k]; simp [f2]
    · exact h.first g (by simp [hg])
  · rw [h.fin]; rfl
  · have := h.dle i hi
    have := (Huff.bump_le d (A.2.2 ++ B.2.2) i).1
    omega
/-- the first one has another first number than all others -/
theorem first_apart {c : Nat → Nat} {n N : Nat} {d : Nat → Nat} {gs : List Huff.Grp} {A : Huff.Grp} (hg : Huff.Good c n N (A :: gs) d) (hf : ∀ g ∈ A :: gs, g.2.1 ∈ g.2.2) : ∀ g ∈ gs, A.2.1 ≠ g.2.1 := fun b hbg => by
  have hnd := Huff.nodup_all hg
  rw [List.flatMap_cons] at hnd
  exact (List.nodup_append.1 hnd).2.2 A.2.1 (hf A (by simp)) b.2.1 (List.mem_flatMap.2 ⟨b, hbg, hf b (by simp [hbg])⟩)
/-- the least item is that of the first group -/
theorem take_head {gs : List Huff.Grp} {A : Huff.Grp} {ps : List PG} {hs hs' : List It} {x : It} (hle : ∀ g ∈ gs, Huff.gle A g) (hdis : ∀ g ∈ gs, A.2.1 ≠ g.2.1)
    (hp : ps.map Prod.snd = A :: gs) (ht : ∀ p ∈ ps, Tells p) (hh : hs.Perm (ps.map Prod.fst)) (hx : (x :: hs').Perm hs) (hl : ∀ y ∈ hs, ¬ LtI y x) :
    ∃ ps' : List PG, ps = (x, A) :: ps' ∧ ps'.map Prod.snd = gs ∧ hs'.Perm (ps'.map Prod.fst) := by
  match ps, hp with
  | (y, g) :: ps, hq0 =>
    simp at hq0
    obtain ⟨rfl, hq⟩ := hq0
    have hxin : x ∈ y :: ps.map Prod.fst := by
      have := (hx.trans hh).mem_iff (a := x)
      simp only [List.map_cons] at this
      exact this.1 (by simp)
    have hxy : x = y := by
      rcases List.mem_cons.1 hxin with e | hm
      · exact e
      · exfalso
        obtain ⟨⟨x2, b⟩, hb, rfl⟩ := List.mem_map.1 hm
        have hbg : b ∈ gs := by rw [← hq]; exact List.mem_map.2 ⟨(x2, b), hb, rfl⟩
        have h1 := hle b hbg
        have h0 := hdis b hbg
        have t1 := ht (y, g) (by simp)
        have t2 := ht (x2, b) (by simp [hb])
        have hny := hl y (hh.mem_iff.2 (by simp))
        apply hny
        unfold LtI
        unfold Tells at t1 t2
        simp only at t1 t2
        rcases h1 with h1 | ⟨h1, h2⟩
        · exact Or.inl (by simp only; omega)
        · exact Or.inr ⟨by simp only; omega, by simp only; omega⟩
    subst hxy
    refine ⟨ps, rfl, hq, ?_⟩
    have := hx.trans hh
    simp only [List.map_cons] at this
    exact this.cons_inv
theorem put_ins {z : It} {G : Huff.Grp} {rest : List Huff.Grp} {ps : List PG} {hs hs' : List It} (hp : ps.map Prod.snd = rest) (hh : hs.Perm (ps.map Prod.fst)) (hx : hs'.Perm (z :: hs)) :
    ∃ ps' : List PG, ps'.map Prod.snd = Huff.gins G rest ∧ ps'.Perm ((z, G) :: ps) ∧ hs'.Perm (ps'.map Prod.fst) := by
  obtain ⟨qs, h1, h2⟩ := perm_lift Prod.snd (Huff.gins_perm G rest) ((z, G) :: ps) (by simp [hp])
  exact ⟨qs, h1, h2, hx.trans ((hh.cons z).trans (h2.map Prod.fst).symm)⟩
theorem start_ins {c : Nat → Nat} {n : Nat} {ps : List PG} {hs : List It} (hp : ps.map Prod.snd = (List.range n).map fun i => (c i, i, [i])) (hh : hs.Perm (ps.map Prod.fst)) :
    ∃ qs : List PG, qs.map Prod.snd = Huff.gstart c n ∧ qs.Perm ps ∧ hs.Perm (qs.map Prod.fst) := by
  obtain ⟨qs, h1, h2⟩ := perm_lift Prod.snd (Huff.gstart_perm c n) ps hp
  exact ⟨qs, h1, h2, hh.trans (h2.map Prod.fst).symm⟩
end Go.Proofs.Ytgcpdifggjkdhab
