/- WHAT LENGTHS COST: the links of costT, kraftB, lengthsT to the mathematics. It speaks of no function of the program. -/
import Derived.Test.YtgcpdifggjkdhabLensT
import Derived.Test.YtgcpdifggjkdhabShort
namespace Go.Proofs.Ytgcpdifggjkdhab
open Go.RowKit
theorem lengthsT_in {c : List Int} (h : allIn c 100000 = true) : lengthsT c = lengthsI c := by unfold lengthsT; rw [if_pos h]
theorem lengthsI_len (c : List Int) : (lengthsI c).length = c.length := rowF_len _ _
theorem lengthsI_get {c : List Int} {i : Nat} (h : i < c.length) : (lengthsI c).getD i 0 = ((Huff.lenD (cN c) c.length i : Nat) : Int) := rowF_get _ h
theorem lengthsI_40 {c : List Int} (h : allIn c 100000 = true) : allIn (lengthsI c) 40 = true := by
  obtain ⟨⟨h1, h2⟩, h3⟩ := allIn_out h
  refine allIn_yes (by rw [lengthsI_len]; exact ⟨h1, h2⟩) (fun i hi => ?_)
  rw [lengthsI_len] at hi
  rw [lengthsI_get hi]
  have := Huff.lenD_in (c := cN c) h1 h2 hi
  omega
theorem sum_cast (l : List Nat) : ((l.sum : Nat) : Int) = (l.map fun i : Nat => (i : Int)).sum := by
  induction l with
  | nil => rfl
  | cons a t ih => simp [ih]
/-- what lengths x cost, as a number -/
theorem costT_nat {c x : List Int} (h : allIn c 100000 = true) (hx : allIn x 40 = true) (hl : x.length = c.length) : costT c x = ((Huff.cost (cN c) (cN x) c.length : Nat) : Int) := by
  obtain ⟨⟨h1, h2⟩, h3⟩ := allIn_out h
  obtain ⟨_, h4⟩ := allIn_out hx
  unfold costT
  rw [if_pos (by simp [h, hx, hl])]
  have key : ∀ k, k ≤ c.length → costN c x k = ((Huff.cost (cN c) (cN x) k : Nat) : Int) := by
    intro k
    induction k with
    | zero => intro _; simp [costN, Huff.cost]
    | succ k ih =>
      intro hk
      have a := h3 k (by omega)
      have b := h4 k (by omega)
      rw [costN_succ, ih (by omega)]
      unfold Huff.cost
      rw [List.range_succ, List.map_append, List.sum_append]
      have e : (((cN c k * cN x k : Nat)) : Int) = c.getD k 0 * x.getD k 0 := by
        unfold cN
        rw [Int.natCast_mul, Int.toNat_of_nonneg (by omega), Int.toNat_of_nonneg (by omega)]
      simp only [List.map_cons, List.map_nil, List.sum_cons, List.sum_nil, Nat.add_zero, Int.natCast_add]
      rw [e]
  exact key _ (Nat.le_refl _)
theorem cN_lengthsI {c : List Int} {i : Nat} (h : i < c.length) : cN (lengthsI c) i = Huff.lenD (cN c) c.length i := by
  unfold cN
  rw [lengthsI_get h]
  rfl
theorem cost_congr {c x y : Nat → Nat} {n : Nat} (h : ∀ i, i < n → x i = y i) : Huff.cost c x n = Huff.cost c y n := by
  unfold Huff.cost
  exact Huff.sum_map_congr fun i hi => by rw [h i (List.mem_range.1 hi)]
/-- what Huffman's lengths cost -/
theorem costT_own {c : List Int} (h : allIn c 100000 = true) : costT c (lengthsI c) = ((Huff.cost (cN c) (Huff.lenD (cN c) c.length) c.length : Nat) : Int) := by
  rw [costT_nat h (lengthsI_40 h) (lengthsI_len c), cost_congr (fun i hi => cN_lengthsI hi)]
theorem kraftB_own {c : List Int} (h : allIn c 100000 = true) : kraftB (lengthsI c) = true := by
  obtain ⟨⟨h1, h2⟩, h3⟩ := allIn_out h
  unfold kraftB
  rw [lengthsI_40 h, Bool.true_and, decide_eq_true_eq]
  unfold kraftK
  rw [lengthsI_len]
  have := Huff.lenD_kraft (c := cN c) h1 h2
  have e : Huff.kraftF 40 (fun i => ((lengthsI c).getD i 0).toNat) c.length = Huff.kraftF 40 (Huff.lenD (cN c) c.length) c.length := by
    unfold Huff.kraftF
    exact Huff.sum_map_congr fun i hi => by
      show 2 ^ (40 - cN (lengthsI c) i) = _
      rw [cN_lengthsI (List.mem_range.1 hi)]
  rw [e]
  exact this
/-- no lengths that Kraft allows cost less -/
theorem costT_best {c x : List Int} (h : allIn c 100000 = true) (hk : kraftB x = true) (hl : x.length = c.length) : costT c (lengthsI c) ≤ costT c x := by
  obtain ⟨⟨h1, h2⟩, h3⟩ := allIn_out h
  unfold kraftB at hk
  rw [Bool.and_eq_true, decide_eq_true_eq] at hk
  obtain ⟨hx, hk⟩ := hk
  obtain ⟨_, h4⟩ := allIn_out hx
  rw [costT_own h, costT_nat h hx hl]
  have := Huff.lenD_best (c := cN c) h1 h2 (cN x) (fun i hi => by have := h4 i (by omega); unfold cN; omega) (by
    unfold kraftK at hk
    rw [hl] at hk
    exact hk)
  omega
theorem sumT_total {c : List Int} (h : allIn c 100000 = true) : ((Huff.total (cN c) c.length : Nat) : Int) = costN c (List.replicate c.length 1) c.length := by
  obtain ⟨_, h3⟩ := allIn_out h
  have key : ∀ k, k ≤ c.length → ((Huff.total (cN c) k : Nat) : Int) = costN c (List.replicate c.length 1) k := by
    intro k
    induction k with
    | zero => intro _; simp [costN, Huff.total]
    | succ k ih =>
      intro hk
      have a := h3 k (by omega)
      rw [costN_succ, ← ih (by omega)]
      unfold Huff.total
      rw [List.range_succ, List.map_append, List.sum_append]
      have e : (List.replicate c.length (1 : Int)).getD k 0 = 1 := by simp [List.getD, show k < c.length by omega]
      rw [e]
      simp only [List.map_cons, List.map_nil, List.sum_cons, List.sum_nil, Nat.add_zero, Int.natCast_add]
      unfold cN
      rw [Int.toNat_of_nonneg (by omega), Int.mul_one]
  exact key _ (Nat.le_refl _)
end Go.Proofs.Ytgcpdifggjkdhab
