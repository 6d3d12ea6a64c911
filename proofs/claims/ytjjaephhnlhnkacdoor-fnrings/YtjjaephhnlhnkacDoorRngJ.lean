/- NewRing's ring is one; with one node more a key is owned as before or by that one. Over lists: it speaks of no function of the program. -/
import Derived.Test.YtjjaephhnlhnkacDoorRngN
namespace Go.Proofs.YtjjaephhnlhnkacDoor
set_option linter.unusedVariables false
theorem dotAt_range (x k : Nat) : 0 ≤ dotAt x k ∧ dotAt x k ≤ 65535 := by unfold dotAt; omega
theorem insN_sorted (x : Int) : ∀ (m : Nat) (l : List Dt), l.Pairwise (fun a b => a.1 < b.1) → (insN x m l).Pairwise (fun a b => a.1 < b.1)
  | 0, l, h => h
  | m + 1, l, h => insD_sorted (insN_sorted x m l h)
theorem insN_mem (x : Int) : ∀ (m : Nat) (l : List Dt) (p : Dt), p ∈ insN x m l → p ∈ l ∨ (p.2 = x ∧ 0 ≤ p.1 ∧ p.1 ≤ 65535)
  | 0, l, p, h => Or.inl h
  | m + 1, l, p, h => by
    rcases insD_mem h with h | h
    · exact insN_mem x m l p h
    · refine Or.inr ?_
      rw [h]
      exact ⟨rfl, dotAt_range _ _⟩
theorem insN_keep (x : Int) : ∀ (m : Nat) (l : List Dt), l.length ≤ (insN x m l).length
  | 0, l => Nat.le_refl _
  | m + 1, l => by
    have h1 := insN_keep x m l
    have h2 := (insD_len (insN x m l) (dotAt x.toNat m, x)).2.1
    show _ ≤ (insD _ _).length
    omega
theorem insN_pos (x : Int) {m : Nat} (hm : 1 ≤ m) (l : List Dt) : 1 ≤ (insN x m l).length := by
  obtain ⟨k, rfl⟩ : ∃ k, m = k + 1 := ⟨m - 1, by omega⟩
  exact (insD_len (insN x k l) (dotAt x.toNat k, x)).2.2
theorem ringN_sorted (D : Nat) : ∀ (c : List Int) (l : List Dt), l.Pairwise (fun a b => a.1 < b.1) → (ringN D c l).Pairwise (fun a b => a.1 < b.1)
  | [], l, h => h
  | x :: t, l, h => ringN_sorted D t _ (insN_sorted x D l h)
theorem ringN_mem (D : Nat) : ∀ (c : List Int) (l : List Dt) (p : Dt), p ∈ ringN D c l → p ∈ l ∨ (p.2 ∈ c ∧ 0 ≤ p.1 ∧ p.1 ≤ 65535)
  | [], l, p, h => Or.inl h
  | x :: t, l, p, h => by
    rcases ringN_mem D t _ p h with h | ⟨h1, h2⟩
    · rcases insN_mem x D l p h with h | ⟨h1, h2⟩
      · exact Or.inl h
      · exact Or.inr ⟨h1 ▸ List.mem_cons_self, h2⟩
    · exact Or.inr ⟨List.mem_cons_of_mem _ h1, h2⟩
theorem ringN_keep (D : Nat) : ∀ (c : List Int) (l : List Dt), l.length ≤ (ringN D c l).length
  | [], l => Nat.le_refl _
  | x :: t, l => Nat.le_trans (insN_keep x D l) (ringN_keep D t _)
theorem ringN_le (D : Nat) : ∀ (c : List Int) (l : List Dt), (ringN D c l).length ≤ l.length + c.length * D
  | [], l => by show l.length ≤ _; omega
  | x :: t, l => by
    have h1 := insN_len x D l
    have h2 := ringN_le D t (insN x D l)
    show (ringN D t (insN x D l)).length ≤ _
    rw [List.length_cons, Nat.succ_mul]
    omega
theorem ringN_append (D : Nat) : ∀ (c e : List Int) (l : List Dt), ringN D (c ++ e) l = ringN D e (ringN D c l)
  | [], e, l => rfl
  | x :: t, e, l => ringN_append D t e _
theorem ringN_ring {c : List Int} {D : Nat} (hc : NodesP c 15) (h1 : 1 ≤ D) (h8 : D ≤ 8) : RingP (ringN D c []) := by
  refine ⟨⟨?_, ?_⟩, fun p hp => ?_, ringN_sorted D c [] List.Pairwise.nil⟩
  · cases c with
    | nil => have := hc.1.1; simp at this
    | cons x t =>
      have h2 := ringN_keep D t (insN x D [])
      have h3 := insN_pos x h1 []
      show 1 ≤ (ringN D t (insN x D [])).length
      omega
  · have h2 := ringN_le D c []
    have h3 : c.length * D ≤ 16 * 8 := Nat.mul_le_mul hc.1.2 h8
    simp only [List.length_nil] at h2
    omega
  · rcases ringN_mem D c [] p hp with h | ⟨h2, h3⟩
    · cases h
    · exact ⟨h3, hc.2.1 _ h2⟩
theorem head_mem {l : List Dt} (h : l ≠ []) (m : Int) : (rotL l m).headD dt0 ∈ l := by
  have hl := rot_len l m
  cases hr : rotL l m with
  | nil => rw [hr] at hl; exact absurd (List.eq_nil_of_length_eq_zero hl.symm) h
  | cons p t =>
    have h9 : p ∈ rotL l m := by rw [hr]; exact List.mem_cons_self
    exact (rot_perm l m).mem_iff.1 h9
theorem owner_in {c : List Int} {D : Nat} (hc : NodesP c 15) (h1 : 1 ≤ D) (h8 : D ≤ 8) {key : Int} (hk : 0 ≤ key) : ownT (ringN D c []) key ∈ c := by
  have hr := ringN_ring hc h1 h8
  have hne : ringN D c [] ≠ [] := fun e => by have := hr.1.1; rw [e] at this; simp at this
  unfold ownT
  rw [if_pos ⟨hr, hk⟩]
  rcases ringN_mem D c [] _ (head_mem hne (key % 65536)) with h | ⟨h, _⟩
  · cases h
  · exact h
theorem more_owner {l : List Dt} (x : Int) (hs : l.Pairwise (fun a b => a.1 < b.1)) (hne : l ≠ []) (k : Int) : ∀ m, ((rotL (insN x m l) k).headD dt0).2 = x ∨ (rotL (insN x m l) k).headD dt0 = (rotL l k).headD dt0
  | 0 => Or.inr rfl
  | m + 1 => by
    rcases ins_owner (l := insN x m l) (p := (dotAt x.toNat m, x)) (m := k) (insN_sorted x m l hs) with h | ⟨_, h⟩
    · refine Or.inl ?_
      show ((rotL (insD _ _) k).headD dt0).2 = x
      rw [h]
    · show ((rotL (insD _ _) k).headD dt0).2 = x ∨ (rotL (insD _ _) k).headD dt0 = _
      rw [h]
      exact more_owner x hs hne k m
/-- with one node more -/
theorem join_nodes {c : List Int} {x : Int} (hc : NodesP c 15) (h0 : 0 ≤ x) (h15 : x ≤ 15) (hx : x ∉ c) (hl : c.length ≤ 15) : NodesP (c ++ [x]) 15 := by
  refine ⟨⟨by simp, by simp; omega⟩, fun y hy => ?_, List.nodup_append.2 ⟨hc.2.2, by simp, fun a ha b hb e => by rw [List.mem_singleton.1 hb] at e; rw [e] at ha; exact hx ha⟩⟩
  rcases List.mem_append.1 hy with h | h
  · exact hc.2.1 y h
  · rw [List.mem_singleton.1 h]; exact ⟨h0, h15⟩
theorem join_owner {c : List Int} {x : Int} {D : Nat} (hc : NodesP c 15) (h0 : 0 ≤ x) (h15 : x ≤ 15) (hx : x ∉ c) (hl : c.length ≤ 15) (h1 : 1 ≤ D) (h8 : D ≤ 8) {key : Int} (hk : 0 ≤ key) : ownT (ringN D (c ++ [x]) []) key = x ∨ ownT (ringN D (c ++ [x]) []) key = ownT (ringN D c []) key := by
  have hr := ringN_ring hc h1 h8
  have hr2 := ringN_ring (join_nodes hc h0 h15 hx hl) h1 h8
  have hne : ringN D c [] ≠ [] := fun e => by have := hr.1.1; rw [e] at this; simp at this
  unfold ownT
  rw [if_pos ⟨hr2, hk⟩, if_pos ⟨hr, hk⟩]
  have e : ringN D (c ++ [x]) [] = insN x D (ringN D c []) := by rw [ringN_append]; rfl
  rw [e]
  rcases more_owner x hr.2.2 hne (key % 65536) D with h | h
  · exact Or.inl h
  · exact Or.inr (by rw [h])
end Go.Proofs.YtjjaephhnlhnkacDoor
