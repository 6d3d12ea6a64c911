/- ON THE TWO LEAST GROUPS: how they are found one number after the other, and what a merging does to rows of groups and sums. It speaks of no program. -/
import Derived.Test.YtgcpdifggjkdhabHuffMath
namespace Go.Proofs.Ytgcpdifggjkdhab.Huff

/-! the two least ones among the first g numbers that stand for groups -/
def leS (S : Nat → Nat) (i j : Nat) : Prop := S i < S j ∨ (S i = S j ∧ i ≤ j)
structure Sel (root : Nat → Prop) (S : Nat → Nat) (g : Nat) (a b : Int) : Prop where
  one : (a = -1 ∧ ∀ i, i < g → ¬ root i) ∨ (0 ≤ a ∧ a.toNat < g ∧ root a.toNat ∧ ∀ i, i < g → root i → leS S a.toNat i)
  two : (b = -1 ∧ ∀ i, i < g → root i → (i : Int) = a) ∨ (0 ≤ b ∧ b.toNat < g ∧ root b.toNat ∧ b ≠ a ∧ ∀ i, i < g → root i → (i : Int) ≠ a → leS S b.toNat i)
theorem sel_start (root : Nat → Prop) (S : Nat → Nat) : Sel root S 0 (-1) (-1) := ⟨Or.inl ⟨rfl, fun i h => by omega⟩, Or.inl ⟨rfl, fun i h => by omega⟩⟩
theorem lt_succ_cases {i g : Nat} (h : i < g + 1) : i < g ∨ i = g := by omega
theorem sel_skip {root : Nat → Prop} {S : Nat → Nat} {g : Nat} {a b : Int} (h : Sel root S g a b) (hr : ¬ root g) : Sel root S (g + 1) a b := by
  refine ⟨?_, ?_⟩
  · rcases h.one with ⟨h1, h2⟩ | ⟨h1, h2, h3, h4⟩
    · exact Or.inl ⟨h1, fun i hi => by rcases lt_succ_cases hi with h | rfl; exact h2 i h; exact hr⟩
    · exact Or.inr ⟨h1, by omega, h3, fun i hi hi2 => by rcases lt_succ_cases hi with h | rfl; exact h4 i h hi2; exact absurd hi2 hr⟩
  · rcases h.two with ⟨h1, h2⟩ | ⟨h1, h2, h3, h4, h5⟩
    · exact Or.inl ⟨h1, fun i hi hi2 => by rcases lt_succ_cases hi with h | rfl; exact h2 i h hi2; exact absurd hi2 hr⟩
    · exact Or.inr ⟨h1, by omega, h3, h4, fun i hi hi2 hi3 => by rcases lt_succ_cases hi with h | rfl; exact h5 i h hi2 hi3; exact absurd hi2 hr⟩
theorem sel_first {root : Nat → Prop} {S : Nat → Nat} {g : Nat} {a b : Int} (h : Sel root S g a b) (hr : root g) (hs : a < 0 ∨ S g < S a.toNat) : Sel root S (g + 1) (g : Int) a := by
  rcases h.one with ⟨h1, h2⟩ | ⟨h1, h2, h3, h4⟩
  · refine ⟨Or.inr ⟨by omega, by omega, by rw [Int.toNat_natCast]; exact hr, fun i hi hi2 => ?_⟩, Or.inl ⟨h1, fun i hi hi2 => ?_⟩⟩
    · rcases lt_succ_cases hi with h | rfl
      · exact absurd hi2 (h2 i h)
      · rw [Int.toNat_natCast]; exact Or.inr ⟨rfl, Nat.le_refl _⟩
    · rcases lt_succ_cases hi with h | rfl
      · exact absurd hi2 (h2 i h)
      · rfl
  · have hs2 : S g < S a.toNat := hs.resolve_left (by omega)
    refine ⟨Or.inr ⟨by omega, by omega, by rw [Int.toNat_natCast]; exact hr, fun i hi hi2 => ?_⟩, Or.inr ⟨h1, by omega, h3, by omega, fun i hi hi2 hi3 => ?_⟩⟩
    · rw [Int.toNat_natCast]
      rcases lt_succ_cases hi with h | rfl
      · have := h4 i h hi2
        unfold leS at this ⊢
        omega
      · exact Or.inr ⟨rfl, Nat.le_refl _⟩
    · rcases lt_succ_cases hi with h | rfl
      · exact h4 i h hi2
      · exact absurd rfl hi3
theorem sel_second {root : Nat → Prop} {S : Nat → Nat} {g : Nat} {a b : Int} (h : Sel root S g a b) (hr : root g) (hs : ¬ (a < 0 ∨ S g < S a.toNat)) (hb : b < 0 ∨ S g < S b.toNat) : Sel root S (g + 1) a (g : Int) := by
  rcases h.one with ⟨h1, h2⟩ | ⟨h1, h2, h3, h4⟩
  · exact absurd (Or.inl (by omega)) hs
  · have hs2 : S a.toNat ≤ S g := by
      rcases Nat.lt_or_ge (S g) (S a.toNat) with h | h
      · exact absurd (Or.inr h) hs
      · exact h
    refine ⟨Or.inr ⟨h1, by omega, h3, fun i hi hi2 => ?_⟩, Or.inr ⟨by omega, by omega, by rw [Int.toNat_natCast]; exact hr, by omega, fun i hi hi2 hi3 => ?_⟩⟩
    · rcases lt_succ_cases hi with h | rfl
      · exact h4 i h hi2
      · unfold leS; omega
    · rw [Int.toNat_natCast]
      rcases lt_succ_cases hi with hlt | rfl
      · rcases h.two with ⟨k1, k2⟩ | ⟨k1, k2, k3, k4, k5⟩
        · exact absurd (k2 i hlt hi2) hi3
        · have k6 := k5 i hlt hi2 hi3
          have k7 : S g < S b.toNat := hb.resolve_left (by omega)
          unfold leS at k6 ⊢
          omega
      · exact Or.inr ⟨rfl, Nat.le_refl _⟩
theorem sel_none {root : Nat → Prop} {S : Nat → Nat} {g : Nat} {a b : Int} (h : Sel root S g a b) (hs : ¬ (a < 0 ∨ S g < S a.toNat)) (hb : ¬ (b < 0 ∨ S g < S b.toNat)) : Sel root S (g + 1) a b := by
  rcases h.one with ⟨h1, h2⟩ | ⟨h1, h2, h3, h4⟩
  · exact absurd (Or.inl (by omega)) hs
  · rcases h.two with ⟨k1, k2⟩ | ⟨k1, k2, k3, k4, k5⟩
    · exact absurd (Or.inl (by omega)) hb
    · have hs2 : S a.toNat ≤ S g := by
        rcases Nat.lt_or_ge (S g) (S a.toNat) with h | h
        · exact absurd (Or.inr h) hs
        · exact h
      have hb2 : S b.toNat ≤ S g := by
        rcases Nat.lt_or_ge (S g) (S b.toNat) with h | h
        · exact absurd (Or.inr h) hb
        · exact h
      refine ⟨Or.inr ⟨h1, by omega, h3, fun i hi hi2 => ?_⟩, Or.inr ⟨k1, by omega, k3, k4, fun i hi hi2 hi3 => ?_⟩⟩
      · rcases lt_succ_cases hi with h | rfl
        · exact h4 i h hi2
        · unfold leS; omega
      · rcases lt_succ_cases hi with h | rfl
        · exact k5 i h hi2 hi3
        · unfold leS; omega

/-! rows of groups and sums that stand for a list of groups -/
structure Rep (n : Nat) (gs : List Grp) (grp sm : Nat → Nat) : Prop where
  all : (gs.flatMap fun g => g.2.2).Perm (List.range n)
  mem : ∀ g ∈ gs, ∀ i ∈ g.2.2, grp i = g.2.1
  first : ∀ g ∈ gs, g.2.1 ∈ g.2.2
  sum : ∀ g ∈ gs, sm g.2.1 = g.1
theorem once_in : ∀ {gs : List Grp}, (gs.flatMap fun g => g.2.2).Nodup → ∀ {g h : Grp} {x : Nat}, g ∈ gs → h ∈ gs → x ∈ g.2.2 → x ∈ h.2.2 → g = h := by
  intro gs
  induction gs with
  | nil => intro _ g h x hg; cases hg
  | cons a t ih =>
    intro hn g h x hg hh hx hy
    rw [List.flatMap_cons] at hn
    obtain ⟨_, h2, h3⟩ := List.nodup_append.1 hn
    rcases List.mem_cons.1 hg with e1 | hg2
    · rcases List.mem_cons.1 hh with e2 | hh2
      · rw [e1, e2]
      · exact absurd rfl (h3 x (e1 ▸ hx) x (List.mem_flatMap.2 ⟨h, hh2, hy⟩))
    · rcases List.mem_cons.1 hh with e2 | hh2
      · exact absurd rfl (h3 x (e2 ▸ hy) x (List.mem_flatMap.2 ⟨g, hg2, hx⟩))
      · exact ih h2 hg2 hh2 hx hy
theorem rep_nodup {n : Nat} {gs : List Grp} {grp sm : Nat → Nat} (h : Rep n gs grp sm) : (gs.flatMap fun g => g.2.2).Nodup := (h.all.nodup_iff).2 List.nodup_range
theorem rep_in {n : Nat} {gs : List Grp} {grp sm : Nat → Nat} (h : Rep n gs grp sm) {i : Nat} (hi : i < n) : ∃ g ∈ gs, i ∈ g.2.2 := by
  have := h.all.mem_iff.2 (List.mem_range.2 hi)
  exact List.mem_flatMap.1 this
theorem rep_lt {n : Nat} {gs : List Grp} {grp sm : Nat → Nat} (h : Rep n gs grp sm) {g : Grp} (hg : g ∈ gs) {i : Nat} (hi : i ∈ g.2.2) : i < n :=
  List.mem_range.1 (h.all.mem_iff.1 (List.mem_flatMap.2 ⟨g, hg, hi⟩))
theorem rep_same {n : Nat} {gs : List Grp} {grp sm : Nat → Nat} (h : Rep n gs grp sm) {g k : Grp} (hg : g ∈ gs) (hk : k ∈ gs) (e : g.2.1 = k.2.1) : g = k :=
  once_in (rep_nodup h) hg hk (h.first g hg) (e ▸ h.first k hk)
theorem rep_mem {n : Nat} {gs : List Grp} {grp sm : Nat → Nat} (h : Rep n gs grp sm) {g : Grp} (hg : g ∈ gs) {i : Nat} (hi : i < n) : i ∈ g.2.2 ↔ grp i = g.2.1 := by
  refine ⟨h.mem g hg i, fun e => ?_⟩
  obtain ⟨k, hk, hik⟩ := rep_in h hi
  have := h.mem k hk i hik
  rw [rep_same h hg hk (by omega)]
  exact hik
theorem rep_root {n : Nat} {gs : List Grp} {grp sm : Nat → Nat} (h : Rep n gs grp sm) {i : Nat} (hi : i < n) : grp i = i ↔ ∃ g ∈ gs, g.2.1 = i := by
  constructor
  · intro e
    obtain ⟨k, hk, hik⟩ := rep_in h hi
    exact ⟨k, hk, by rw [← h.mem k hk i hik, e]⟩
  · rintro ⟨g, hg, rfl⟩
    exact h.mem g hg _ (h.first g hg)
/-- the two that were found are the first two of the list -/
theorem sel_end {n : Nat} {A B : Grp} {rest : List Grp} {grp sm : Nat → Nat} (h : Rep n (A :: B :: rest) grp sm) (hs : (A :: B :: rest).Pairwise gle) {a b : Int} (hsel : Sel (fun i => grp i = i) sm n a b) :
    a = (A.2.1 : Int) ∧ b = (B.2.1 : Int) ∧ A.2.1 < n ∧ B.2.1 < n ∧ A.2.1 ≠ B.2.1 := by
  have hA : A ∈ A :: B :: rest := by simp
  have hB : B ∈ A :: B :: rest := by simp
  have hAn := rep_lt h hA (h.first A hA)
  have hBn := rep_lt h hB (h.first B hB)
  have hAr := (rep_root h hAn).2 ⟨A, hA, rfl⟩
  have hBr := (rep_root h hBn).2 ⟨B, hB, rfl⟩
  have hne : A.2.1 ≠ B.2.1 := fun e => by
    have hn := rep_nodup h
    rw [List.flatMap_cons, List.flatMap_cons] at hn
    exact (List.nodup_append.1 hn).2.2 A.2.1 (h.first A hA) A.2.1 (List.mem_append_left _ (e ▸ h.first B hB)) rfl
  obtain ⟨hs1, hs2⟩ := List.pairwise_cons.1 hs
  obtain ⟨hs3, _⟩ := List.pairwise_cons.1 hs2
  have e1 : a = (A.2.1 : Int) := by
    rcases hsel.one with ⟨_, k2⟩ | ⟨k1, k2, k3, k4⟩
    · exact absurd hAr (k2 _ hAn)
    · have h1 := k4 _ hAn hAr
      obtain ⟨g, hg, e⟩ := (rep_root h k2).1 k3
      rw [← e] at h1
      unfold leS at h1
      rw [h.sum g hg, h.sum A hA] at h1
      rcases List.mem_cons.1 hg with rfl | hg2
      · omega
      · have := hs1 g hg2
        unfold gle at this
        omega
  refine ⟨e1, ?_, hAn, hBn, hne⟩
  rcases hsel.two with ⟨_, k2⟩ | ⟨k1, k2, k3, k4, k5⟩
  · have := k2 _ hBn hBr
    omega
  · have h1 := k5 _ hBn hBr (by omega)
    obtain ⟨g, hg, e⟩ := (rep_root h k2).1 k3
    rw [← e] at h1
    unfold leS at h1
    rw [h.sum g hg, h.sum B hB] at h1
    rcases List.mem_cons.1 hg with rfl | hg2
    · omega
    · rcases List.mem_cons.1 hg2 with rfl | hg3
      · omega
      · have := hs3 g hg3
        unfold gle at this
        omega
/-- a merging -/
theorem rep_step {n : Nat} {A B : Grp} {rest : List Grp} {grp sm : Nat → Nat} (h : Rep n (A :: B :: rest) grp sm) {grp' sm' : Nat → Nat}
    (hg' : ∀ i, i < n → grp' i = if grp i = A.2.1 ∨ grp i = B.2.1 then min A.2.1 B.2.1 else grp i)
    (hs' : ∀ i, i < n → sm' i = if i = min A.2.1 B.2.1 then sm A.2.1 + sm B.2.1 else sm i) : Rep n (gins (gmerge A B) rest) grp' sm' := by
  have hA : A ∈ A :: B :: rest := by simp
  have hB : B ∈ A :: B :: rest := by simp
  have hp := gins_perm (gmerge A B) rest
  have hlt : ∀ g ∈ A :: B :: rest, g.2.1 < n := fun g hg => rep_lt h hg (h.first g hg)
  have hn := rep_nodup h
  rw [List.flatMap_cons, List.flatMap_cons] at hn
  have hrest : ∀ g ∈ rest, g.2.1 ≠ A.2.1 ∧ g.2.1 ≠ B.2.1 := fun g hg => by
    obtain ⟨_, h2, h3⟩ := List.nodup_append.1 hn
    have h4 := (List.nodup_append.1 h2).2.2
    have hf := h.first g (by simp [hg])
    have hm : g.2.1 ∈ rest.flatMap fun g => g.2.2 := List.mem_flatMap.2 ⟨g, hg, hf⟩
    exact ⟨fun e => h3 A.2.1 (h.first A hA) _ (List.mem_append_right _ hm) e.symm, fun e => h4 B.2.1 (h.first B hB) _ hm e.symm⟩
  refine ⟨?_, fun g hg i hi => ?_, fun g hg => ?_, fun g hg => ?_⟩
  · refine (List.Perm.flatMap_right _ hp).trans ?_
    have := h.all
    simp only [List.flatMap_cons] at this
    rw [← List.append_assoc] at this
    rw [List.flatMap_cons]
    exact this
  · rcases List.mem_cons.1 (hp.mem_iff.1 hg) with rfl | hg
    · have hi2 : i ∈ A.2.2 ++ B.2.2 := hi
      rcases List.mem_append.1 hi2 with hi | hi
      · rw [hg' i (rep_lt h hA hi), if_pos (Or.inl (h.mem A hA i hi))]; rfl
      · rw [hg' i (rep_lt h hB hi), if_pos (Or.inr (h.mem B hB i hi))]; rfl
    · have hgm : g ∈ A :: B :: rest := by simp [hg]
      have he := h.mem g hgm i hi
      have := hrest g hg
      rw [hg' i (rep_lt h hgm hi), if_neg (by omega), he]
  · rcases List.mem_cons.1 (hp.mem_iff.1 hg) with rfl | hg
    · show min A.2.1 B.2.1 ∈ A.2.2 ++ B.2.2
      rcases Nat.le_total A.2.1 B.2.1 with hle | hle
      · rw [Nat.min_eq_left hle]; exact List.mem_append_left _ (h.first A hA)
      · rw [Nat.min_eq_right hle]; exact List.mem_append_right _ (h.first B hB)
    · exact h.first g (by simp [hg])
  · rcases List.mem_cons.1 (hp.mem_iff.1 hg) with rfl | hg
    · have h1 := hlt A hA
      have h2 := hlt B hB
      show sm' (min A.2.1 B.2.1) = A.1 + B.1
      rw [hs' _ (by omega), if_pos rfl, h.sum A hA, h.sum B hB]
    · have hgm : g ∈ A :: B :: rest := by simp [hg]
      have := hrest g hg
      rw [hs' _ (hlt g hgm), if_neg (by omega)]
      exact h.sum g hgm
/-- who gets one more -/
theorem bump_iff {n : Nat} {A B : Grp} {rest : List Grp} {grp sm : Nat → Nat} (h : Rep n (A :: B :: rest) grp sm) (d : Nat → Nat) {i : Nat} (hi : i < n) : bump d (A.2.2 ++ B.2.2) i = if grp i = A.2.1 ∨ grp i = B.2.1 then d i + 1 else d i := by
  unfold bump
  have h1 := rep_mem h (g := A) (by simp) hi
  have h2 := rep_mem h (g := B) (by simp) hi
  simp only [List.mem_append, h1, h2]
theorem rep_start (c : Nat → Nat) (n : Nat) : Rep n (gstart c n) (fun i => i) c := by
  have hp := gstart_perm c n
  have hm : ∀ g ∈ gstart c n, ∃ i, g = (c i, i, [i]) := fun g hg => by
    obtain ⟨i, _, e⟩ := List.mem_map.1 (hp.mem_iff.1 hg)
    exact ⟨i, e.symm⟩
  refine ⟨(good_start c n 0).all, fun g hg i hi => ?_, fun g hg => ?_, fun g hg => ?_⟩
  all_goals obtain ⟨k, rfl⟩ := hm g hg
  · simpa using hi
  · simp
  · rfl

end Go.Proofs.Ytgcpdifggjkdhab.Huff
