/- CONTRACTS: impl.Lengths. -/
import Derived.Test.YtgcpdifggjkdhabHeapQ
import Derived.Test.YtgcpdifggjkdhabHeapJ
import Derived.Test.YtgcpdifggjkdhabHeapG
import Derived.Test.YtgcpdifggjkdhabLensT
import Derived.Test.YtgcpdifggjkdhabShortI
import Derived.Deep.LoopGhost
namespace Go.Proofs.Ytgcpdifggjkdhab
open Go.RowKit
set_option linter.unusedVariables false
def natsL (l : List Nat) : List Int := l.map fun i : Nat => (i : Int)
/-- an item stands for a group: its numbers lie in a row of their own -/
def Mem6 (B : Nat) (w : World) (p : PG) : Prop := Tells p ∧ w.ownsRow B 3 1 (slV p.1.2.2) p.2.2.2.length (cellsInt64S (natsL p.2.2.2))
theorem owns_kept6 {w w' : World} {B : Nat} {e : TypeId} {v : Value} {n : Nat} {xs : List Value} (h : w.ownsRow B e 1 v n xs) (hk : ∀ g cs, v.ownBlock = some g → w.heap[g]? = some (.cells cs e (0, 0)) → w'.heap[g]? = w.heap[g]?) : w'.ownsRow B e 1 v n xs := by
  obtain ⟨h1, h2⟩ := h
  refine ⟨h1, ?_⟩
  rcases h2 with h2 | ⟨g, cap, cur, rfl, hg, hh, r⟩
  · exact Or.inl h2
  · exact Or.inr ⟨g, cap, cur, rfl, hg, (hk g cur rfl hh).trans hh, r⟩
theorem owns_kept6s {w w' : World} {B size : Nat} {e : TypeId} {v : Value} {n : Nat} {xs : List Value} (h : w.ownsRow B e size v n xs) (hk : ∀ g cs, v.ownBlock = some g → w.heap[g]? = some (.cells cs e (0, 0)) → w'.heap[g]? = w.heap[g]?) : w'.ownsRow B e size v n xs := by
  obtain ⟨h1, h2⟩ := h
  refine ⟨h1, ?_⟩
  rcases h2 with h2 | ⟨g, cap, cur, rfl, hg, hh, r⟩
  · exact Or.inl h2
  · exact Or.inr ⟨g, cap, cur, rfl, hg, (hk g cur rfl hh).trans hh, r⟩
/-- all blocks stay that are no rows of lengths -/
def Keeps6 (w w' : World) : Prop := ∀ (k : Nat) (cs : Array Value) (t : TypeId) (fr : Nat × Nat), w.heap[k]? = some (Obj.cells cs t fr) → t ≠ 2 → w'.heap[k]? = w.heap[k]?
theorem keeps6_of {w w' : World} {gl : Nat} {cs : Array Value} {fr : Nat × Nat} (hg : w.grownBy w' (some gl)) (hl : w.heap[gl]? = some (.cells cs 2 fr)) : Keeps6 w w' := fun k cs' t fr' h1 h2 => hg.block k (Array.getElem?_eq_some_iff.1 h1).1 (fun e => by
  cases e
  rw [hl] at h1
  have := Option.some.inj h1
  injection this with _ h3 _
  exact h2 h3.symm)
theorem owns_fr6 {w w' : World} {Bg : Nat} {e : TypeId} {v : Value} {n : Nat} {xs : List Value} (h : w.ownsRow (Bg + 1) e 1 v n xs) (he : e ≠ 73) (hf : Fr Bg w w') : w'.ownsRow (Bg + 1) e 1 v n xs :=
  owns_kept6 h fun g cs h1 h2 => hf.kh g (Array.getElem?_eq_some_iff.1 h2).1 (fun e => by have := (h.lt g h1).1; omega) (fun cs' fr e2 => by
    rw [h2] at e2
    have := Option.some.inj e2
    injection this with _ h3 _
    exact he h3)
theorem Mem6.fr {Bg : Nat} {w w' : World} {p : PG} (h : Mem6 (Bg + 1) w p) (hf : Fr Bg w w') : Mem6 (Bg + 1) w' p := ⟨h.1, owns_fr6 h.2 (by decide) hf⟩
theorem Mem6.below {B : Nat} {w w' : World} {p : PG} (h : Mem6 B w p) (hb : Below w.heap.size w w') : Mem6 B w' p := ⟨h.1, owns_below h.2 hb⟩
/-- the heap, and what its items stand for -/
structure Hp6 (Bg m : Nat) (gs : List Huff.Grp) (w : World) : Prop where
  ex : ∃ (hs : List It) (ps : List PG), HGo Bg m hs w ∧ HpI hs m ∧ hs.Perm (ps.map Prod.fst) ∧ ps.map Prod.snd = gs ∧ ∀ p ∈ ps, Mem6 (Bg + 1) w p
theorem Hp6.below {Bg m : Nat} {gs : List Huff.Grp} {w w' : World} (h : Hp6 Bg m gs w) (hb : Below w.heap.size w w') : Hp6 Bg m gs w' := by
  obtain ⟨hs, ps, h1, h2, h3, h4, h5⟩ := h.ex
  exact ⟨hs, ps, ⟨h1.at_.below hb, h1.len⟩, h2, h3, h4, fun p hp => (h5 p hp).below hb⟩
theorem Mem6.keeps {B : Nat} {w w' : World} {p : PG} (h : Mem6 B w p) (hk : Keeps6 w w') : Mem6 B w' p := ⟨h.1, owns_kept6 h.2 fun g cs h1 h2 => hk g cs _ _ h2 (by decide)⟩
theorem HAt.keeps {Bg : Nat} {hs : List It} {w w' : World} (h : HAt Bg hs w) (hk : Keeps6 w w') : HAt Bg hs w' := by
  obtain ⟨v, h1, h2⟩ := h
  exact ⟨v, (hk Bg _ _ _ h1 (by decide)).trans h1, owns_kept6s h2 fun g cs a b => hk g cs _ _ b (by decide)⟩
theorem Hp6.keeps {Bg m : Nat} {gs : List Huff.Grp} {w w' : World} (h : Hp6 Bg m gs w) (hk : Keeps6 w w') : Hp6 Bg m gs w' := by
  obtain ⟨hs, ps, h1, h2, h3, h4, h5⟩ := h.ex
  exact ⟨hs, ps, ⟨h1.at_.keeps hk, h1.len⟩, h2, h3, h4, fun p hp => (h5 p hp).keeps hk⟩
theorem bump_take {d : Nat → Nat} {ms : List Nat} (hn : ms.Nodup) {p : Nat} (hp : p < ms.length) : setF (Huff.bump d (ms.take p)) (ms.getD p 0) (Huff.bump d (ms.take p) (ms.getD p 0) + 1) = Huff.bump d (ms.take (p + 1)) ∧ Huff.bump d (ms.take p) (ms.getD p 0) = d (ms.getD p 0) := by
  have e : ms.take (p + 1) = ms.take p ++ [ms.getD p 0] := take_snoc ms 0 p hp
  have hni : ms.getD p 0 ∉ ms.take p := fun hm => by
    have hsub : (ms.take (p + 1)).Nodup := hn.sublist (List.take_sublist _ _)
    rw [e] at hsub
    exact (List.nodup_append.1 hsub).2.2 _ hm _ (by simp) rfl
  have e2 : Huff.bump d (ms.take p) (ms.getD p 0) = d (ms.getD p 0) := by unfold Huff.bump; rw [if_neg hni]
  refine ⟨?_, e2⟩
  rw [e2, e]
  funext i
  unfold setF Huff.bump
  by_cases h1 : i = ms.getD p 0
  · rw [if_pos h1, if_pos (by rw [h1]; simp), h1]
  · rw [if_neg h1]
    by_cases h2 : i ∈ ms.take p
    · rw [if_pos h2, if_pos (by simp [h2])]
    · rw [if_neg h2, if_neg (by
        intro h3
        rcases List.mem_append.1 h3 with h3 | h3
        · exact h2 h3
        · exact h1 (List.mem_singleton.1 h3))]
theorem Hp6.perm {Bg m : Nat} {gs gs' : List Huff.Grp} {w : World} (h : Hp6 Bg m gs w) (hp : gs'.Perm gs) : Hp6 Bg m gs' w := by
  obtain ⟨hs, ps, h1, h2, h3, h4, h5⟩ := h.ex
  obtain ⟨qs, q1, q2⟩ := perm_lift Prod.snd hp ps h4
  exact ⟨hs, qs, h1, h2, h3.trans (q2.map Prod.fst).symm, q1, fun p hp => h5 p (q2.mem_iff.1 hp)⟩
theorem Hp6.lt {Bg m : Nat} {gs : List Huff.Grp} {w : World} (h : Hp6 Bg m gs w) : Bg < w.heap.size := by
  obtain ⟨hs, ps, h1, _⟩ := h.ex
  exact h1.at_.lt
theorem Hp6.slice {Bg m : Nat} {gs : List Huff.Grp} {w : World} (h : Hp6 Bg m gs w) : ∃ ao cap, w.cell? ⟨Bg, 0, none⟩ = some (.slice ao m cap) := by
  obtain ⟨hs, ps, h1, _⟩ := h.ex
  obtain ⟨ao, cap, hb⟩ := h1.at_.slice
  rw [h1.len] at hb
  exact ⟨ao, cap, by rw [cell_of_row w Bg 0 _ _ (0, 0) hb]; rfl⟩
/-- put, as groups -/
theorem put6_any (Bg m : Nat) (gs gs' : List Huff.Grp) (x : It) (G : Huff.Grp) (w : World) (h : Hp6 Bg m gs w) (hm : Mem6 (Bg + 1) w (x, G)) (hp : gs'.Perm (G :: gs)) (hn : m ≤ 900) :
    Calls Try.prog 63 #[.pointer (some ⟨Bg, 0, none⟩), itV x] w fun e w' => e = .returned (.tuple #[]) ∧ Hp6 Bg (m + 1) gs' w' ∧ Fr Bg w w' := by
  obtain ⟨hs, ps, h1, h2, h3, h4, h5⟩ := h.ex
  refine (put5_any Bg m hs x w h1 h2 hn).mono ?_
  rintro e w' ⟨rfl, hs', k1, k2, k3, k4⟩
  obtain ⟨qs, q1, q2⟩ := perm_lift Prod.snd hp ((x, G) :: ps) (by simp [h4])
  refine ⟨rfl, ⟨hs', qs, k1, k2, k3.trans ((h3.cons x).trans (q2.map Prod.fst).symm), q1, fun p hp => ?_⟩, k4⟩
  rcases List.mem_cons.1 (q2.mem_iff.1 hp) with rfl | hp
  · exact hm.fr k4
  · exact (h5 p hp).fr k4
/-- take, as groups -/
theorem take6_any (Bg m : Nat) (A : Huff.Grp) (gs : List Huff.Grp) (w : World) (h : Hp6 Bg (m + 1) (A :: gs) w) (hn : m ≤ 900) (hle : ∀ g ∈ gs, Huff.gle A g) (hdis : ∀ g ∈ gs, A.2.1 ≠ g.2.1) :
    Calls Try.prog 64 #[.pointer (some ⟨Bg, 0, none⟩)] w fun e w' => ∃ x, e = .returned (itV x) ∧ Mem6 (Bg + 1) w' (x, A) ∧ Hp6 Bg m gs w' ∧ Fr Bg w w' := by
  obtain ⟨hs, ps, h1, h2, h3, h4, h5⟩ := h.ex
  refine (take5_any Bg m hs w h1 h2 hn).mono ?_
  rintro e w' ⟨x, rfl, hs', k1, k2, k3, k4, k5⟩
  obtain ⟨ps', rfl, e2, e3⟩ := take_head hle hdis h4 (fun p hp => (h5 p hp).1) h3 k3 k4
  exact ⟨x, rfl, (h5 _ (by simp)).fr k5, ⟨hs', ps', k1, k2, e3, e2, fun p hp => (h5 p (by simp [hp])).fr k5⟩, k5⟩
end Go.Proofs.Ytgcpdifggjkdhab
