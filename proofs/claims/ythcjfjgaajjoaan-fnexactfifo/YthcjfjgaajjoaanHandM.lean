/- OVER LISTS: what is at hand as the program has it (in the order in which it came, with the places of two calls) misses as often as the plain rules do: last called, first come. -/
import Derived.Test.YthcjfjgaajjoaanHandL
import Derived.Test.YthcjfjgaajjoaanBelList
namespace Go.Proofs.Ythcjfjgaajjoaan
open Go.RowKit
set_option linter.unusedVariables false
theorem getD_hl {l : List Hl} {k : Nat} (h : k < l.length) : l.getD k hl0 = l[k] := by simp [List.getD, h]
theorem cons_erase_perm {α : Type} {l : List α} {i : Nat} (h : i < l.length) : (l[i] :: l.eraseIdx i).Perm l := by
  rw [List.eraseIdx_eq_take_drop_succ]
  refine List.perm_middle.symm.trans ?_
  rw [← List.drop_eq_getElem_cons h, List.take_append_drop]
/-- one more at hand, and one goes where there are too many -/
def moreP (key : Hl → Int) (room : Nat) (N : List Hl) (q : Int) (at_ : Nat) : List Hl :=
  if room < (N ++ [(q, (at_ : Int), (at_ : Int))]).length then (N ++ [(q, (at_ : Int), (at_ : Int))]).eraseIdx (leastK key (N ++ [(q, (at_ : Int), (at_ : Int))]) (N ++ [(q, (at_ : Int), (at_ : Int))]).length) else N ++ [(q, (at_ : Int), (at_ : Int))]
/-- called once more -/
def againP (N : List Hl) (q : Int) (at_ : Nat) : List Hl := N.set (placeL q N 0).toNat ((N.getD (placeL q N 0).toNat hl0).1, (N.getD (placeL q N 0).toNat hl0).2.1, (at_ : Int))
/-- how many miss -/
def missP (key : Hl → Int) (room : Nat) : List Int → Nat → List Hl → Nat
  | [], _, _ => 0
  | q :: cs, i, N => if 0 ≤ placeL q N 0 then missP key room cs (i + 1) (againP N q i) else missP key room cs (i + 1) (moreP key room N q i) + 1
theorem placeL_mem {q : Int} {N : List Hl} : 0 ≤ placeL q N 0 ↔ q ∈ N.map (·.1) := by
  rcases placeL_is q N 0 with ⟨h1, h2⟩ | ⟨j, h1, h2, h3⟩
  · refine ⟨fun h => by omega, fun h => ?_⟩
    obtain ⟨p, hp, e⟩ := List.mem_map.1 h
    exact absurd e (h2 p hp)
  · refine ⟨fun _ => ?_, fun _ => by omega⟩
    rw [← h3, List.mem_map]
    exact ⟨_, by rw [show N.getD j hl0 = N[j] by simp [List.getD, h2]]; exact List.getElem_mem h2, rfl⟩
theorem again_at {q : Int} {N : List Hl} {i : Nat} (h : 0 ≤ placeL q N 0) : ∃ j, j < N.length ∧ (N.getD j hl0).1 = q ∧ placeL q N 0 = (j : Int) ∧ againP N q i = N.set j (q, (N.getD j hl0).2.1, (i : Int)) := by
  rcases placeL_is q N 0 with ⟨h1, _⟩ | ⟨j, h1, h2, h3⟩
  · omega
  · rw [Nat.zero_add] at h1
    refine ⟨j, h2, h3, h1, ?_⟩
    unfold againP
    rw [h1, Int.toNat_natCast, h3]
theorem map_set_fst {N : List Hl} {j : Nat} {q : Int} {x : Int × Int} (h : (N.getD j hl0).1 = q) (hj : j < N.length) : (N.set j (q, x)).map (·.1) = N.map (·.1) := by
  rw [List.map_set]
  apply List.ext_getElem (by simp)
  intro k h1 h2
  rw [List.getElem_set]
  split
  · rename_i e
    subst e
    simp only [List.getElem_map]
    rw [← h]
    simp [List.getD, hj]
  · rfl
/-- in the order in which it came -/
def RelF (i : Nat) (N : List Hl) (H : List Int) : Prop := H = N.map (·.1) ∧ N.Pairwise (fun a b => a.2.1 < b.2.1) ∧ ∀ p ∈ N, p.2.1 < (i : Int)
theorem leastK_zero {key : Hl → Int} {p : Hl} {l : List Hl} (h : (p :: l).Pairwise (fun a b => key a < key b)) : ∀ k, k ≤ (p :: l).length → leastK key (p :: l) k = 0
  | 0, _ => rfl
  | k + 1, hk => by
    have ih := leastK_zero h k (by omega)
    show (if _ then _ else _) = _
    rw [ih]
    have e0 : (p :: l).getD 0 hl0 = p := rfl
    rw [e0]
    by_cases h0 : k = 0
    · subst h0
      rw [e0, if_neg (by omega)]
    · have hk' : k < (p :: l).length := by omega
      have e : (p :: l).getD k hl0 = (p :: l)[k] := getD_hl hk'
      have h9 := List.pairwise_iff_getElem.1 h 0 k (by omega) hk' (by omega)
      rw [e, if_neg (by simp only [List.getElem_cons_zero] at h9; omega)]
theorem relF_again {i : Nat} {N : List Hl} {H : List Int} {q : Int} (h : RelF i N H) (hq : 0 ≤ placeL q N 0) : RelF (i + 1) (againP N q i) H := by
  obtain ⟨j, hj, h1, _, e⟩ := again_at (i := i) hq
  obtain ⟨r1, r2, r3⟩ := h
  have hg : (N.getD j hl0) = N[j] := by simp [List.getD, hj]
  have hs : (N.set j (q, (N.getD j hl0).2.1, (i : Int))).map (fun a => a.2.1) = N.map (fun a => a.2.1) := by
    rw [List.map_set]
    apply List.ext_getElem (by simp)
    intro k h1 h2
    rw [List.getElem_set]
    split
    · rename_i e; subst e; simp only [List.getElem_map]; rw [hg]
    · rfl
  rw [e]
  refine ⟨by rw [map_set_fst h1 hj]; exact r1, ?_, fun p hp => ?_⟩
  · have h9 : (N.map (fun a => a.2.1)).Pairwise (· < ·) := List.pairwise_map.2 r2
    rw [← hs] at h9
    exact List.pairwise_map.1 h9
  · have h9 : p.2.1 ∈ (N.set j (q, (N.getD j hl0).2.1, (i : Int))).map (fun a => a.2.1) := List.mem_map.2 ⟨p, hp, rfl⟩
    rw [hs] at h9
    obtain ⟨p2, hp2, e2⟩ := List.mem_map.1 h9
    have := r3 p2 hp2
    omega
theorem relF_more {i room : Nat} {N : List Hl} {H : List Int} {q : Int} (h : RelF i N H) (hr : 1 ≤ room) (hl : N.length ≤ room) :
    RelF (i + 1) (moreP keyFifo room N q i) ((if H.length = room then H.eraseIdx 0 else H) ++ [q]) := by
  obtain ⟨r1, r2, r3⟩ := h
  have hp : (N ++ [(q, (i : Int), (i : Int))]).Pairwise (fun a b => a.2.1 < b.2.1) := List.pairwise_append.2 ⟨r2, List.pairwise_singleton _ _, fun a ha b hb => by
    rw [List.mem_singleton.1 hb]; exact r3 a ha⟩
  have hall : ∀ p ∈ N ++ [(q, (i : Int), (i : Int))], p.2.1 < ((i + 1 : Nat) : Int) := fun p hp => by
    rcases List.mem_append.1 hp with h | h
    · have := r3 p h; omega
    · rw [List.mem_singleton.1 h]; show (i : Int) < _; omega
  have hHl : H.length = N.length := by rw [r1, List.length_map]
  unfold moreP
  by_cases hc : N.length = room
  · rw [if_pos (by rw [List.length_append]; simp; omega), if_pos (by omega)]
    cases N with
    | nil => simp at hc; omega
    | cons p N =>
      have hp' : ((p :: (N ++ [(q, (i : Int), (i : Int))]))).Pairwise (fun a b => keyFifo a < keyFifo b) := hp
      have e : leastK keyFifo (p :: N ++ [(q, (i : Int), (i : Int))]) (p :: N ++ [(q, (i : Int), (i : Int))]).length = 0 := leastK_zero hp' _ (Nat.le_refl _)
      rw [e, r1]
      refine ⟨by simp, ?_, fun x hx => hall x (by exact List.mem_of_mem_eraseIdx hx)⟩
      exact hp.sublist (List.eraseIdx_sublist _ _)
  · rw [if_neg (by rw [List.length_append]; simp; omega), if_neg (by omega), r1]
    exact ⟨by simp, hp, hall⟩
/-- by the last call -/
def gL (p : Hl) : Int × Int := (p.1, p.2.2)
def RelL (i : Nat) (N : List Hl) (H : List Int) : Prop := ∃ L : List (Int × Int), L.Perm (N.map gL) ∧ H = L.map (·.1) ∧ L.Pairwise (fun a b => a.2 < b.2) ∧ (∀ p ∈ L, p.2 < (i : Int)) ∧ H.Nodup
theorem relL_again {i : Nat} {N : List Hl} {H : List Int} {q : Int} (h : RelL i N H) (hq : 0 ≤ placeL q N 0) : RelL (i + 1) (againP N q i) (H.erase q ++ [q]) := by
  obtain ⟨j, hj, h1, _, e⟩ := again_at (i := i) hq
  obtain ⟨L, r1, r2, r3, r4, r5⟩ := h
  have hjm : j < (N.map gL).length := by rw [List.length_map]; exact hj
  have hgj : (N.map gL)[j].1 = q := by
    rw [List.getElem_map, ← h1]
    simp [List.getD, hj, gL]
  have hP := cons_erase_perm hjm
  have hnd : ((N.map gL)[j] :: (N.map gL).eraseIdx j).map (·.1) |>.Nodup := ((hP.trans r1.symm).map (·.1)).nodup_iff.2 (r2 ▸ r5)
  rw [List.map_cons, hgj, List.nodup_cons] at hnd
  have hfil : ((N.map gL)[j] :: (N.map gL).eraseIdx j).filter (fun x => x.1 != q) = (N.map gL).eraseIdx j := by
    rw [List.filter_cons_of_neg (by have h9 := hgj; rw [List.getElem_map] at h9; simp [h9])]
    apply List.filter_eq_self.2
    intro x hx
    simp only [bne_iff_ne, ne_eq]
    intro e9
    exact hnd.1 (List.mem_map.2 ⟨x, hx, e9⟩)
  rw [e]
  refine ⟨L.filter (fun x => x.1 != q) ++ [(q, (i : Int))], ?_, ?_, ?_, ?_, ?_⟩
  · have ha : (L.filter (fun x => x.1 != q)).Perm ((N.map gL).eraseIdx j) := by
      have h9 := (r1.trans hP.symm).filter (fun x => x.1 != q)
      rwa [hfil] at h9
    have hs : (N.set j (q, (N.getD j hl0).2.1, (i : Int))).map gL = (N.map gL).set j (q, (i : Int)) := by rw [List.map_set]; rfl
    rw [hs]
    have hb : ((N.map gL).set j (q, (i : Int))).Perm ((q, (i : Int)) :: (N.map gL).eraseIdx j) := by
      have h9 := cons_erase_perm (l := (N.map gL).set j (q, (i : Int))) (i := j) (by rw [List.length_set]; exact hjm)
      rw [List.getElem_set_self, List.eraseIdx_set_eq] at h9
      exact h9.symm
    refine (List.perm_append_comm.trans ?_).trans hb.symm
    exact ha.cons _
  · rw [List.map_append, r5.erase_eq_filter, r2, List.filter_map]
    rfl
  · refine List.pairwise_append.2 ⟨r3.sublist List.filter_sublist, List.pairwise_singleton _ _, fun a ha b hb => ?_⟩
    rw [List.mem_singleton.1 hb]
    exact r4 a (List.mem_filter.1 ha).1
  · intro p hp
    rcases List.mem_append.1 hp with h | h
    · have := r4 p ((List.mem_filter.1 h).1); omega
    · rw [List.mem_singleton.1 h]; show (i : Int) < _; omega
  · refine List.nodup_append.2 ⟨r5.erase _, by simp, fun a ha b hb e9 => ?_⟩
    rw [List.mem_singleton.1 hb] at e9
    rw [e9] at ha
    exact absurd rfl (r5.mem_erase_iff.1 ha).1
theorem relL_more {i room : Nat} {N : List Hl} {H : List Int} {q : Int} (h : RelL i N H) (hr : 1 ≤ room) (hl : N.length ≤ room) (hq : q ∉ H) :
    RelL (i + 1) (moreP keyLru room N q i) ((if H.length = room then H.eraseIdx 0 else H) ++ [q]) := by
  obtain ⟨L, r1, r2, r3, r4, r5⟩ := h
  have hHl : H.length = N.length := by rw [r2, List.length_map, r1.length_eq, List.length_map]
  have hLl : L.length = N.length := by rw [r1.length_eq, List.length_map]
  have p1 : (L ++ [(q, (i : Int))]).Perm ((N ++ [(q, (i : Int), (i : Int))]).map gL) := by rw [List.map_append]; exact r1.append_right _
  have p3 : (L ++ [(q, (i : Int))]).Pairwise (fun a b => a.2 < b.2) := List.pairwise_append.2 ⟨r3, List.pairwise_singleton _ _, fun a ha b hb => by
    rw [List.mem_singleton.1 hb]; exact r4 a ha⟩
  have p4 : ∀ p ∈ L ++ [(q, (i : Int))], p.2 < ((i + 1 : Nat) : Int) := fun p hp => by
    rcases List.mem_append.1 hp with h | h
    · have := r4 p h; omega
    · rw [List.mem_singleton.1 h]; show (i : Int) < _; omega
  have p5 : (H ++ [q]).Nodup := List.nodup_append.2 ⟨r5, by simp, fun a ha b hb e9 => by
    rw [List.mem_singleton.1 hb] at e9; rw [e9] at ha; exact hq ha⟩
  unfold moreP
  generalize hN' : N ++ [(q, (i : Int), (i : Int))] = N' at p1
  have hNl : N'.length = N.length + 1 := by rw [← hN']; simp
  by_cases hc : N.length = room
  · rw [if_pos (by omega), if_pos (by omega)]
    cases L with
    | nil => simp at hLl; omega
    | cons x L =>
      obtain ⟨m, hm⟩ : ∃ m, m = leastK keyLru N' N'.length := ⟨_, rfl⟩
      have hml : m < N'.length := by rw [hm]; exact leastK_lt _ _ (by omega)
      have hmm : m < (N'.map gL).length := by rw [List.length_map]; exact hml
      rw [← hm]
      have hP := cons_erase_perm hmm
      -- the least one is the first
      have hx : (N'.map gL)[m] = x := by
        have hmem : (N'.map gL)[m] ∈ x :: (L ++ [(q, (i : Int))]) := p1.mem_iff.2 (List.getElem_mem hmm)
        rcases List.mem_cons.1 hmem with h | h
        · exact h
        · exfalso
          have h1 := (List.pairwise_cons.1 p3).1 _ h
          have h2 : x ∈ N'.map gL := p1.mem_iff.1 (List.mem_cons_self)
          obtain ⟨y, hy, e⟩ := List.mem_map.1 h2
          obtain ⟨k, hk, e2⟩ := List.getElem_of_mem hy
          have h3 := leastK_is keyLru N' N'.length k hk
          rw [← hm] at h3
          have e3 : N'.getD m hl0 = N'[m] := by simp [List.getD, hml]
          have e4 : N'.getD k hl0 = N'[k] := by simp [List.getD, hk]
          rw [e3, e4, e2] at h3
          rw [List.getElem_map, ← e] at h1
          have h4 : y.2.2 < (N'[m]).2.2 := h1
          have h5 : (N'[m]).2.2 ≤ y.2.2 := h3
          omega
      refine ⟨L ++ [(q, (i : Int))], ?_, ?_, (List.pairwise_cons.1 p3).2, fun p hp => p4 p (List.mem_cons_of_mem _ hp), ?_⟩
      · have h9 : (x :: (L ++ [(q, (i : Int))])).Perm (x :: (N'.map gL).eraseIdx m) := by
          refine p1.trans ?_
          rw [← hx]
          exact hP.symm
        have h8 := h9.cons_inv
        have e9 : (N'.map gL).eraseIdx m = (N'.eraseIdx m).map gL := by rw [List.eraseIdx_eq_take_drop_succ, List.eraseIdx_eq_take_drop_succ, List.map_append, List.map_take, List.map_drop]
        rwa [e9] at h8
      · rw [r2]; simp
      · rw [r2] at p5 ⊢
        simp only [List.map_cons, List.eraseIdx_zero, List.tail_cons]
        exact (List.nodup_cons.1 (by simpa using p5)).2
  · rw [if_neg (by omega), if_neg (by omega)]
    exact ⟨L ++ [(q, (i : Int))], p1, by rw [r2]; simp, p3, p4, p5⟩
theorem moreP_len {key : Hl → Int} {room i : Nat} {N : List Hl} {q : Int} (hl : N.length ≤ room) : (moreP key room N q i).length ≤ room := by
  unfold moreP
  split
  · rename_i h
    rw [List.length_eraseIdx_of_lt (leastK_lt _ _ (by simp))]
    simp
    exact hl
  · omega
theorem againP_len {i : Nat} {N : List Hl} {q : Int} : (againP N q i).length = N.length := by unfold againP; rw [List.length_set]
theorem missP_fifo {room : Nat} (hr : 1 ≤ room) : ∀ (c : List Int) (i : Nat) (N : List Hl) (H : List Int), RelF i N H → N.length ≤ room → missP keyFifo room c i N = missL 1 room c H
  | [], i, N, H, _, _ => rfl
  | q :: cs, i, N, H, h, hl => by
    show (if 0 ≤ placeL q N 0 then _ else _) = _
    by_cases hq : q ∈ H
    · have hp := placeL_mem.2 (h.1 ▸ hq)
      rw [if_pos hp, missL_hit hq]
      have e : hitH 1 H q = H := by unfold hitH; rw [if_neg (by decide)]
      rw [e]
      exact missP_fifo hr cs (i + 1) _ _ (relF_again h hp) (by rw [againP_len]; exact hl)
    · have hp : ¬ 0 ≤ placeL q N 0 := fun h9 => hq (h.1 ▸ placeL_mem.1 h9)
      rw [if_neg hp, missL_new hq]
      have e : outI 1 cs H = 0 := by unfold outI; rw [if_neg (by decide)]
      rw [e, missP_fifo hr cs (i + 1) _ _ (relF_more h hr hl) (moreP_len hl)]
theorem relL_mem {i : Nat} {N : List Hl} {H : List Int} {q : Int} (h : RelL i N H) : q ∈ H ↔ q ∈ N.map (·.1) := by
  obtain ⟨L, r1, r2, _⟩ := h
  have h9 := r1.map (·.1)
  rw [r2, h9.mem_iff, List.map_map]
  rfl
theorem missP_lru {room : Nat} (hr : 1 ≤ room) : ∀ (c : List Int) (i : Nat) (N : List Hl) (H : List Int), RelL i N H → N.length ≤ room → missP keyLru room c i N = missL 0 room c H
  | [], i, N, H, _, _ => rfl
  | q :: cs, i, N, H, h, hl => by
    show (if 0 ≤ placeL q N 0 then _ else _) = _
    by_cases hq : q ∈ H
    · have hp := placeL_mem.2 ((relL_mem h).1 hq)
      rw [if_pos hp, missL_hit hq]
      have e : hitH 0 H q = H.erase q ++ [q] := by unfold hitH; rw [if_pos rfl]
      rw [e]
      exact missP_lru hr cs (i + 1) _ _ (relL_again h hp) (by rw [againP_len]; exact hl)
    · have hp : ¬ 0 ≤ placeL q N 0 := fun h9 => hq ((relL_mem h).2 (placeL_mem.1 h9))
      rw [if_neg hp, missL_new hq]
      have e : outI 0 cs H = 0 := by unfold outI; rw [if_neg (by decide)]
      rw [e, missP_lru hr cs (i + 1) _ _ (relL_more h hr hl hq) (moreP_len hl)]
theorem missP_lru0 {room : Nat} (hr : 1 ≤ room) (c : List Int) : missP keyLru room c 0 [] = missL 0 room c [] :=
  missP_lru hr c 0 [] [] ⟨[], List.Perm.nil, rfl, List.Pairwise.nil, (fun p hp => by cases hp), List.nodup_nil⟩ (Nat.zero_le _)
theorem missP_fifo0 {room : Nat} (hr : 1 ≤ room) (c : List Int) : missP keyFifo room c 0 [] = missL 1 room c [] :=
  missP_fifo hr c 0 [] [] ⟨rfl, List.Pairwise.nil, fun p hp => by cases hp⟩ (Nat.zero_le _)
end Go.Proofs.Ythcjfjgaajjoaan
