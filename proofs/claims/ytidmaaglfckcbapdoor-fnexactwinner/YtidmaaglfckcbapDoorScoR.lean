/- THE RANKS AS A PLAIN FUNCTION (one after another put in its place), the winner; few move. The specification's Ranks, Winner told by it. -/
import Derived.Test.YtidmaaglfckcbapDoorScoS
namespace Go.Proofs.YtidmaaglfckcbapDoor
open Go.RowKit
set_option linter.unusedVariables false
/-- one more, ahead of the first that it goes ahead of -/
def putR (k : Int) : List Int → Int → List Int
  | [], x => [x]
  | y :: t, x => if scoT y k < scoT x k ∨ (scoT x k = scoT y k ∧ x < y) then x :: y :: t else y :: putR k t x
def ranksT (l : List Int) (k : Int) : List Int := if NodesP l 4611686018427387904 ∧ 0 ≤ k then l.foldl (putR k) [] else []
def winT (l : List Int) (k : Int) : Int := (ranksT l k).headD (-1)
theorem putR_perm (k : Int) : ∀ (l : List Int) (x : Int), (putR k l x).Perm (x :: l)
  | [], x => List.Perm.refl _
  | y :: t, x => by
    rw [putR]
    split
    · exact List.Perm.refl _
    · exact ((putR_perm k t x).cons y).trans (List.Perm.swap x y t)
theorem putR_mem {k : Int} {l : List Int} {x z : Int} : z ∈ putR k l x ↔ z = x ∨ z ∈ l := by
  rw [(putR_perm k l x).mem_iff, List.mem_cons]
theorem putR_sorted {k : Int} : ∀ {l : List Int} {x : Int}, l.Pairwise (ahdT k) → x ∉ l → (putR k l x).Pairwise (ahdT k)
  | [], x, _, _ => List.pairwise_singleton _ _
  | y :: t, x, h, hx => by
    obtain ⟨h1, h2⟩ := List.pairwise_cons.1 h
    have hxy : x ≠ y := fun e => hx (e ▸ List.mem_cons_self)
    have hxt : x ∉ t := fun e => hx (List.mem_cons_of_mem _ e)
    rw [putR]
    split
    · rename_i h3
      have h3 : ahdT k x y := h3
      refine List.pairwise_cons.2 ⟨fun z hz => ?_, h⟩
      rcases List.mem_cons.1 hz with hz | hz
      · rw [hz]; exact h3
      · exact ahd_trans h3 (h1 z hz)
    · rename_i h3
      have h3 : ¬ ahdT k x y := h3
      have h4 : ahdT k y x := (ahd_total hxy).resolve_left h3
      refine List.pairwise_cons.2 ⟨fun z hz => ?_, putR_sorted h2 hxt⟩
      rcases putR_mem.1 hz with hz | hz
      · rw [hz]; exact h4
      · exact h1 z hz
theorem foldR_is (k : Int) : ∀ (l r : List Int), (∀ x ∈ l, x ∉ r) → l.Nodup → r.Pairwise (ahdT k) → (l.foldl (putR k) r).Perm (r ++ l) ∧ (l.foldl (putR k) r).Pairwise (ahdT k)
  | [], r, _, _, h => ⟨by rw [List.append_nil]; exact List.Perm.refl _, h⟩
  | x :: t, r, hd, hn, h => by
    obtain ⟨hn1, hn2⟩ := List.nodup_cons.1 hn
    have hx := hd x List.mem_cons_self
    obtain ⟨h1, h2⟩ := foldR_is k t (putR k r x) (fun z hz hzr => by
      rcases putR_mem.1 hzr with e | e
      · exact hn1 (e ▸ hz)
      · exact hd z (List.mem_cons_of_mem _ hz) e) hn2 (putR_sorted h hx)
    refine ⟨h1.trans (((putR_perm k r x).append_right t).trans ?_), h2⟩
    rw [List.cons_append]
    exact List.perm_middle.symm
theorem ranksT_is {l : List Int} {k : Int} (h : NodesK l k) : IsRanks l k (ranksT l k) := by
  have h0 : NodesP l 4611686018427387904 ∧ 0 ≤ k := h
  unfold ranksT
  rw [if_pos h0]
  have h9 := foldR_is k l [] (fun x _ e => by cases e) h.1.2.2 List.Pairwise.nil
  exact ⟨by simpa using h9.1, h9.2⟩
theorem ranksT_no {l : List Int} {k : Int} (h : ¬ NodesK l k) : ranksT l k = [] := by
  have h0 : ¬ (NodesP l 4611686018427387904 ∧ 0 ≤ k) := h
  unfold ranksT
  rw [if_neg h0]
theorem ranksT_of {l : List Int} {k : Int} {R : List Int} (h1 : NodesK l k → IsRanks l k R) (h2 : ¬ NodesK l k → R = []) : R = ranksT l k := by
  by_cases h : NodesK l k
  · exact ranks_same (h1 h) (ranksT_is h)
  · rw [h2 h, ranksT_no h]
theorem ranksT_len (l : List Int) (k : Int) : (ranksT l k).length ≤ 16 := by
  by_cases h : NodesK l k
  · rw [ranks_len (ranksT_is h)]; exact h.1.1.2
  · rw [ranksT_no h]; exact Nat.zero_le _
/-- without one node: what is left, in the same order -/
theorem ranksT_less {l : List Int} {k : Int} (h : NodesK l k) (p : Int → Bool) (h1 : l.filter p ≠ []) : ranksT (l.filter p) k = (ranksT l k).filter p := by
  have hl : 1 ≤ (l.filter p).length := List.length_pos_iff.2 h1
  have hk : NodesK (l.filter p) k := ⟨nodes_filter h.1 p hl, h.2⟩
  exact ranks_same (ranksT_is hk) (ranks_filter (ranksT_is h) p)
/-- the winner is ahead of all others -/
theorem winT_first {l : List Int} {k : Int} (h : NodesK l k) : winT l k ∈ l ∧ ∀ x ∈ l, x = winT l k ∨ ahdT k (winT l k) x := by
  have hi := ranksT_is h
  unfold winT
  cases hr : ranksT l k with
  | nil =>
    have := ranks_len hi
    rw [hr] at this
    have := h.1.1.1
    simp at *
    omega
  | cons y t =>
    rw [hr] at hi
    refine ⟨hi.1.mem_iff.1 List.mem_cons_self, fun x hx => ?_⟩
    have hx2 := hi.1.mem_iff.2 hx
    rcases List.mem_cons.1 hx2 with e | e
    · exact Or.inl e
    · exact Or.inr ((List.pairwise_cons.1 hi.2).1 x e)
theorem winT_is {l : List Int} {k x : Int} (h : NodesK l k) (hx : x ∈ l) (ha : ∀ y ∈ l, y = x ∨ ahdT k x y) : winT l k = x := by
  obtain ⟨h1, h2⟩ := winT_first h
  rcases h2 x hx with e | e
  · exact e.symm
  · rcases ha _ h1 with e2 | e2
    · exact e2
    · exact absurd e2 (ahd_asymm e)
theorem winT_no {l : List Int} {k : Int} (h : ¬ NodesK l k) : winT l k = -1 := by
  unfold winT
  rw [ranksT_no h]
  rfl
/-- with one more: won as it was, or by that one -/
theorem win_more {l : List Int} {k x : Int} (h : NodesK l k) (h2 : NodesK (l ++ [x]) k) : winT (l ++ [x]) k = winT l k ∨ (winT (l ++ [x]) k = x ∧ scoT (winT l k) k ≤ scoT x k) := by
  obtain ⟨h3, h4⟩ := winT_first h2
  obtain ⟨h5, h6⟩ := winT_first h
  rcases List.mem_append.1 h3 with g | g
  · left
    symm
    exact winT_is h g fun y hy => h4 y (List.mem_append_left _ hy)
  · right
    have e := List.mem_singleton.1 g
    refine ⟨e, ?_⟩
    rcases h4 _ (List.mem_append_left _ h5) with e2 | e2
    · rw [e2, e]; exact Int.le_refl _
    · rw [e] at e2
      unfold ahdT at e2
      omega
theorem specRanksT_any (va : Value) (l : List Int) (key : Int) (w : World) (ha : Rd w va (cellsInt64S l)) (hl : l.length ≤ 1048576) (hk9 : key ≤ 9223372036854775807) :
    Calls Tryd.prog 9 #[va, .int .i64 key] w fun e w' => ∃ v, e = .returned v ∧ w'.ownsRow w.heap.size 2 1 v (ranksT l key).length (cellsInt64S (ranksT l key)) ∧ Below w.heap.size w w' := by
  refine (specRanks_any va l key w ha hl hk9).mono ?_
  rintro e w' ⟨v, R, rfl, h1, h2, ho, hb⟩
  have e := ranksT_of h1 h2
  subst e
  exact ⟨v, rfl, ho, hb⟩
theorem specWinnerT_any (va : Value) (l : List Int) (key : Int) (w : World) (ha : Rd w va (cellsInt64S l)) (hl : l.length ≤ 1048576) (hk9 : key ≤ 9223372036854775807) :
    Calls Tryd.prog 5 #[va, .int .i64 key] w fun e w' => e = .returned (.int .i64 (winT l key)) ∧ Below w.heap.size w w' := by
  refine (specWinner_any va l key w ha hl hk9).mono ?_
  rintro e w' ⟨R, rfl, h1, h2, hb⟩
  have e := ranksT_of h1 h2
  subst e
  exact ⟨rfl, hb⟩
end Go.Proofs.YtidmaaglfckcbapDoor
