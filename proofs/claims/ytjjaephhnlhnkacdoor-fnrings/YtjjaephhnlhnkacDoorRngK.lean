/- FEW MOVE, over lists: owners are unlike and begin with the owner; without a node only its own keys move, to the next of its owners. It speaks of no function of the program. -/
import Derived.Test.YtjjaephhnlhnkacDoorRngJ
namespace Go.Proofs.YtjjaephhnlhnkacDoor
set_option linter.unusedVariables false
theorem owners_parts {l : List Dt} {k n : Int} (h : ownersT l k n ≠ []) : RingP l ∧ 0 ≤ k ∧ 1 ≤ n := by
  unfold ownersT at h
  by_cases g : RingP l ∧ 0 ≤ k ∧ 1 ≤ n
  · exact g
  · rw [if_neg g] at h; exact absurd rfl h
theorem rot_cons {l : List Dt} (h : RingP l) (m : Int) : ∃ q t, rotL l m = q :: t := by
  have hl := rot_len l m
  have h1 := h.1.1
  cases hr : rotL l m with
  | nil => rw [hr] at hl; simp at hl; omega
  | cons q t => exact ⟨q, t, rfl⟩
theorem dist_first (q : Int) (t : List Int) : ∃ r, distK (q :: t) [] = q :: r := by
  rw [distK_new (by simp), List.nil_append]
  have h9 : (distK t [q]).take 1 = [q] := dist_keep t [q]
  have e := List.take_append_drop 1 (distK t [q])
  rw [h9] at e
  exact ⟨_, e.symm⟩
theorem owners_head {l : List Dt} {k n : Int} (h : ownersT l k n ≠ []) : (ownersT l k n).getD 0 0 = ownT l k ∧ ((ownersT l k n).length : Int) ≤ n := by
  obtain ⟨h1, h2, h3⟩ := owners_parts h
  obtain ⟨q, t, hq⟩ := rot_cons h1 (k % 65536)
  unfold ownersT ownT
  rw [if_pos ⟨h1, h2, h3⟩, if_pos ⟨h1, h2⟩, hq, List.map_cons]
  obtain ⟨r, hr⟩ := dist_first q.2 (t.map (·.2))
  rw [hr]
  obtain ⟨m, hm⟩ : ∃ m, n.toNat = m + 1 := ⟨n.toNat - 1, by omega⟩
  rw [hm, List.take_succ_cons]
  refine ⟨rfl, ?_⟩
  rw [List.length_cons, List.length_take]
  omega
theorem owners_nodup (l : List Dt) (k n : Int) : (ownersT l k n).Nodup := by
  unfold ownersT
  split
  · exact (dist_nodup _ [] List.nodup_nil).sublist (List.take_sublist _ _)
  · exact List.nodup_nil
theorem owners_unlike {l : List Dt} {k n : Int} {i : Nat} (hi : i < (ownersT l k n).length) : (ownersT l k n).getD i 0 ∉ (ownersT l k n).take i := by
  have hd := owners_nodup l k n
  have e : (ownersT l k n).getD i 0 = (ownersT l k n)[i] := by simp [List.getD, hi]
  rw [e]
  intro hm
  obtain ⟨j, hj, e2⟩ := List.getElem_of_mem hm
  rw [List.length_take] at hj
  rw [List.getElem_take] at e2
  exact List.pairwise_iff_getElem.1 hd j i (by omega) hi (by omega) e2
theorem owners_len (l : List Dt) (k n : Int) : (ownersT l k n).length ≤ 256 := by
  unfold ownersT
  split
  · rename_i h
    have h1 := dist_le ((rotL l (k % 65536)).map (·.2)) []
    rw [List.length_map, rot_len, List.length_nil] at h1
    have h2 := h.1.1.2
    rw [List.length_take]
    omega
  · exact Nat.zero_le _
theorem ring_filter {l : List Dt} (h : RingP l) (p : Dt → Bool) (hne : l.filter p ≠ []) : RingP (l.filter p) :=
  ⟨⟨List.length_pos_iff.2 hne, Nat.le_trans (List.length_filter_le _ _) h.1.2⟩, fun x hx => h.2.1 x (List.mem_filter.1 hx).1, h.2.2.sublist List.filter_sublist⟩
theorem without_parts {l : List Dt} {g : Int} (h : withoutT l g ≠ []) : RingP l ∧ withoutT l g = l.filter (fun p => decide (p.2 ≠ g)) ∧ RingP (withoutT l g) := by
  by_cases hr : RingP l
  · have e : withoutT l g = l.filter (fun p => decide (p.2 ≠ g)) := by unfold withoutT; rw [if_pos hr]
    refine ⟨hr, e, ?_⟩
    rw [e]
    rw [e] at h
    exact ring_filter hr _ h
  · exact absurd (by unfold withoutT; rw [if_neg hr]) h
theorem without_len (l : List Dt) (g : Int) : (withoutT l g).length ≤ l.length := by
  unfold withoutT
  split
  · exact List.length_filter_le _ _
  · exact Nat.zero_le _
/-- whoever owns a key without g is not g -/
theorem without_own {l : List Dt} {g k : Int} (hg : 0 ≤ g) : ownT (withoutT l g) k ≠ g := by
  by_cases h : withoutT l g = []
  · rw [h]
    have e : ownT [] k = -1 := by unfold ownT; rw [if_neg (fun h => by have := h.1.1.1; simp at this)]
    rw [e]; omega
  · obtain ⟨h1, h2, h3⟩ := without_parts h
    by_cases hk : 0 ≤ k
    · obtain ⟨q, t, hq⟩ := rot_cons h3 (k % 65536)
      unfold ownT
      rw [if_pos ⟨h3, hk⟩, hq]
      have hm : q ∈ rotL (withoutT l g) (k % 65536) := by rw [hq]; exact List.mem_cons_self
      have hm2 := (rot_perm _ _).mem_iff.1 hm
      rw [h2] at hm2
      have h9 := (List.mem_filter.1 hm2).2
      simpa using h9
    · unfold ownT
      rw [if_neg (fun h => hk h.2)]
      omega
/-- a key that was not g's is owned as before -/
theorem without_same {l : List Dt} {g k : Int} (h : withoutT l g ≠ []) (hk : 0 ≤ k) (ho : ownT l k ≠ g) : ownT (withoutT l g) k = ownT l k := by
  obtain ⟨h1, h2, h3⟩ := without_parts h
  obtain ⟨q, t, hq⟩ := rot_cons h1 (k % 65536)
  have e1 : ownT l k = q.2 := by unfold ownT; rw [if_pos ⟨h1, hk⟩, hq]; rfl
  rw [e1] at ho
  unfold ownT
  rw [if_pos ⟨h3, hk⟩, if_pos ⟨h1, hk⟩, hq, h2, rot_filter, hq, List.filter_cons_of_pos (by simpa using ho)]
  rfl
/-- a key that was g's is owned by the next of its owners -/
theorem without_next {l : List Dt} {g k : Int} (h : withoutT l g ≠ []) (hk : 0 ≤ k) (ho : ownT l k = g) : ownersT l k 2 = [g, ownT (withoutT l g) k] := by
  obtain ⟨h1, h2, h3⟩ := without_parts h
  obtain ⟨q, t, hq⟩ := rot_cons h1 (k % 65536)
  have e1 : ownT l k = q.2 := by unfold ownT; rw [if_pos ⟨h1, hk⟩, hq]; rfl
  rw [e1] at ho
  have hrw : rotL (withoutT l g) (k % 65536) = t.filter (fun p => decide (p.2 ≠ g)) := by
    rw [h2, rot_filter, hq, List.filter_cons_of_neg (by simp [ho])]
  have hmf : (t.map (·.2)).filter (fun x => decide (x ≠ g)) = (t.filter (fun p => decide (p.2 ≠ g))).map (·.2) := by
    rw [List.filter_map]
    rfl
  have hne : t.filter (fun p => decide (p.2 ≠ g)) ≠ [] := by
    obtain ⟨q2, t2, hq2⟩ := rot_cons h3 (k % 65536)
    rw [hrw] at hq2
    rw [hq2]; simp
  have e2 : ownT (withoutT l g) k = ((t.filter (fun p => decide (p.2 ≠ g))).headD dt0).2 := by
    unfold ownT; rw [if_pos ⟨h3, hk⟩, hrw]
  unfold ownersT
  rw [if_pos ⟨h1, hk, by omega⟩, hq, List.map_cons, distK_new (by simp), List.nil_append, ho]
  rcases dist_next g (t.map (·.2)) with ⟨_, h9⟩ | ⟨y, r, h7, h8, _⟩
  · rw [hmf] at h9
    exact absurd (List.map_eq_nil_iff.1 h9) hne
  · rw [h7, e2]
    rw [hmf] at h8
    cases hc : t.filter (fun p => decide (p.2 ≠ g)) with
    | nil => exact absurd hc hne
    | cons z zs =>
      rw [hc] at h8
      have : z.2 = y := h8
      rw [← this]
      rfl
end Go.Proofs.YtjjaephhnlhnkacDoor
