/- WHAT IS TOLD of a tree, over lists: of what was grown, the chunks. What one comes to: one row alone. It speaks of no function of the program. -/
import Derived.Test.YtdiammehnakchacGreatTreeMath
namespace Go.Proofs.YtdiammehnakchacGreat
open Go.RowKit
set_option linter.unusedVariables false
/-- a leaf's chunk -/
def chunkT (s : ByteArray) : ByteArray := asB ((byts s).drop 1)
theorem asB_byts2 (u : ByteArray) : asB (byts u) = u := bytsT_inj (asB_byts _ (byts_bytes u))
theorem chunk_leaf (c : ByteArray) : chunkT (leafT c) = c := by
  unfold chunkT
  rw [byts_leaf]
  exact asB_byts2 c
/-- the chunks below a digest, at most n deep, behind those that are there -/
def toldF (st : Int → Option ByteArray) : Nat → Int → List ByteArray → Option (List ByteArray)
  | 0, _, _ => none
  | n + 1, d, out => match st d with
    | none => none
    | some s => match childT s with
      | none => none
      | some [] => if out.length < 64 then some (out ++ [chunkT s]) else none
      | some (c :: r) => (c :: r).foldlM (fun o e => toldF st n e o) out
theorem told_none {st : Int → Option ByteArray} {d : Int} (n : Nat) (out : List ByteArray) (h : st d = none) : toldF st (n + 1) d out = none := by
  show (match st d with | none => none | some s => _) = _
  rw [h]
theorem told_neither {st : Int → Option ByteArray} {d : Int} {s : ByteArray} (n : Nat) (out : List ByteArray) (h : st d = some s) (k : childT s = none) : toldF st (n + 1) d out = none := by
  show (match st d with | none => none | some s => _) = _
  rw [h]
  show (match childT s with | none => none | some [] => _ | some (c :: r) => _) = _
  rw [k]
theorem told_leaf {st : Int → Option ByteArray} {d : Int} {s : ByteArray} (n : Nat) (out : List ByteArray) (h : st d = some s) (k : childT s = some []) : toldF st (n + 1) d out = if out.length < 64 then some (out ++ [chunkT s]) else none := by
  show (match st d with | none => none | some s => _) = _
  rw [h]
  show (match childT s with | none => none | some [] => _ | some (c :: r) => _) = _
  rw [k]
theorem told_branch {st : Int → Option ByteArray} {d : Int} {s : ByteArray} {l : List Int} (n : Nat) (out : List ByteArray) (h : st d = some s) (k : childT s = some l) (hl : l ≠ []) : toldF st (n + 1) d out = l.foldlM (fun o e => toldF st n e o) out := by
  cases l with
  | nil => exact absurd rfl hl
  | cons c r =>
    show (match st d with | none => none | some s => _) = _
    rw [h]
    show (match childT s with | none => none | some [] => _ | some (c :: r) => _) = _
    rw [k]
/-- what Told tells -/
def toldT (l : List Bl) (root : Int) : Option (List ByteArray) := if storeB l = true then toldF (fun d => (findB l d).map (·.2)) 7 root [] else none
/-- x tells g, if it may go k deep -/
def Exp (st : Int → Option ByteArray) (k : Nat) (x : ByteArray) (g : List ByteArray) : Prop := ∀ m, k ≤ m → ∀ out : List ByteArray, out.length + g.length ≤ 64 → toldF st (m + 1) (digest x) out = some (out ++ g)
theorem exp_leaf {st : Int → Option ByteArray} {c : ByteArray} (h : st (digest (leafT c)) = some (leafT c)) : Exp st 0 (leafT c) [c] := fun m _ out hl => by
  rw [told_leaf m out h (childT_leaf c), chunk_leaf, if_pos (by simp at hl; omega)]
theorem exp_fold {st : Int → Option ByteArray} {k m : Nat} (hk : k ≤ m) : ∀ (q : List (ByteArray × List ByteArray)), (∀ p ∈ q, Exp st k p.1 p.2) → ∀ out : List ByteArray, out.length + ((q.map Prod.snd).flatten).length ≤ 64 → (dgs (q.map Prod.fst)).foldlM (fun o e => toldF st (m + 1) e o) out = some (out ++ (q.map Prod.snd).flatten)
  | [], _, out, _ => by simp [dgs]
  | p :: q, h, out, hl => by
    simp only [List.map_cons, List.flatten_cons, List.length_append] at hl
    have e := h p (by simp) m hk out (by omega)
    show (do let o ← toldF st (m + 1) (digest p.1) out; (dgs (q.map Prod.fst)).foldlM (fun o e => toldF st (m + 1) e o) o) = _
    rw [e]
    show (dgs (q.map Prod.fst)).foldlM (fun o e => toldF st (m + 1) e o) (out ++ p.2) = _
    rw [exp_fold hk q (fun x hx => h x (by simp [hx])) (out ++ p.2) (by rw [List.length_append]; omega)]
    simp
theorem exp_br {st : Int → Option ByteArray} {k : Nat} {q : List (ByteArray × List ByteArray)} (h1 : 1 ≤ q.length) (h4 : q.length ≤ 4) (h : ∀ p ∈ q, Exp st k p.1 p.2) (hs : st (digest (brT (dgs (q.map Prod.fst)))) = some (brT (dgs (q.map Prod.fst)))) : Exp st (k + 1) (brT (dgs (q.map Prod.fst))) (q.map Prod.snd).flatten := fun m hm out hl => by
  have hok : okBr (dgs (q.map Prod.fst)) := ⟨by simp [dgs]; omega, by simp [dgs]; omega, dgs_ok⟩
  obtain ⟨m, rfl⟩ : ∃ j, m = j + 1 := ⟨m - 1, by omega⟩
  rw [told_branch (m + 1) out hs (childT_br hok) (fun e => by rw [e] at hok; exact absurd hok.1 (by simp))]
  exact exp_fold (by omega) q h out hl
theorem by4_map {α β : Type} (f : α → β) : ∀ (n : Nat) (l : List α), by4 n (l.map f) = (by4 n l).map (List.map f)
  | 0, l => rfl
  | n + 1, l => by
    by_cases h : l = []
    · subst h; simp [by4_nil]
    · rw [by4_cons n h, by4_cons n (by simpa using h), List.map_cons, ← List.map_take, ← List.map_drop, by4_map f n]
theorem flat_flat {α β : Type} (f : α → List β) : ∀ (L : List (List α)), (L.map fun q => (q.map f).flatten).flatten = (L.flatten.map f).flatten
  | [] => rfl
  | q :: L => by simp [flat_flat f L]
theorem told_above {st : Int → Option ByteArray} : ∀ (n k : Nat) (P : List (ByteArray × List ByteArray)), P ≠ [] → P.length ≤ 4 ^ n → (∀ p ∈ P, Exp st k p.1 p.2) → (∀ x ∈ (above (n + 1) (P.map Prod.fst)).1, st (digest x) = some x) → (P.map Prod.snd).flatten.length ≤ 64 → k + n ≤ 6 → toldF st 7 (above (n + 1) (P.map Prod.fst)).2 [] = some (P.map Prod.snd).flatten := by
  intro n
  induction n with
  | zero =>
    intro k P hP hl hE _ h64 hk
    have h1 : P.length ≤ 1 := by simpa using hl
    cases P with
    | nil => exact absurd rfl hP
    | cons p r =>
      cases r with
      | nil =>
        rw [above_low 0 (by simp)]
        have e := hE p (by simp) 6 (by omega) [] (by simpa using h64)
        simpa using e
      | cons a r => simp at h1
  | succ n ih =>
    intro k P hP hl hE hS h64 hk
    by_cases h1 : P.length ≤ 1
    · cases P with
      | nil => exact absurd rfl hP
      | cons p r =>
        cases r with
        | nil =>
          rw [above_low (n + 1) (by simp)]
          have e := hE p (by simp) 6 (by omega) [] (by simpa using h64)
          simpa using e
        | cons a r => simp at h1
    · have h2 : 1 < (P.map Prod.fst).length := by rw [List.length_map]; omega
      rw [above_high (n + 1) h2] at hS ⊢
      have eU : upT (dgs (P.map Prod.fst)) = ((by4 P.length P).map fun q => (brT (dgs (q.map Prod.fst)), (q.map Prod.snd).flatten)).map Prod.fst := by
        unfold upT dgs
        rw [List.length_map, List.length_map, List.map_map, by4_map, List.map_map, List.map_map]
        apply List.map_congr_left
        intro q _
        simp
      have eG : (((by4 P.length P).map fun q => (brT (dgs (q.map Prod.fst)), (q.map Prod.snd).flatten)).map Prod.snd).flatten = (P.map Prod.snd).flatten := by
        rw [List.map_map]
        show ((by4 P.length P).map fun q => (q.map Prod.snd).flatten).flatten = _
        rw [flat_flat, by4_flat _ _ (Nat.le_refl _)]
      rw [eU] at hS ⊢
      rw [← eG] at h64 ⊢
      refine ih (k + 1) _ (fun e => ?_) ?_ (fun p hp => ?_) (fun x hx => hS x (List.mem_append_right _ hx)) h64 (by omega)
      · have e2 := congrArg List.length e
        rw [List.length_map, by4_len _ _ (Nat.le_refl _)] at e2
        simp at e2
        omega
      · rw [List.length_map, by4_len _ _ (Nat.le_refl _)]
        rw [Nat.pow_succ] at hl
        omega
      · obtain ⟨q, hq, rfl⟩ := List.mem_map.1 hp
        obtain ⟨q1, q4, qm⟩ := by4_mem _ _ _ hq
        exact exp_br q1 q4 (fun p hp => hE p (qm p hp)) (hS _ (List.mem_append_left _ (List.mem_map.2 ⟨_, List.mem_map.2 ⟨q, hq, rfl⟩, rfl⟩)))
/-- of what was grown the chunks are told -/
theorem told_grown {st : Int → Option ByteArray} {cs : List ByteArray} (h : (grownT cs).1 ≠ []) (hS : ∀ x ∈ (grownT cs).1, st (digest x) = some x) : toldF st 7 (grownT cs).2 [] = some cs := by
  unfold grownT at h hS ⊢
  split at h
  · rename_i k
    rw [if_pos k] at hS ⊢
    simp only at hS ⊢
    have eA : (cs.map fun c => (leafT c, [c])).map Prod.fst = cs.map leafT := by rw [List.map_map]; rfl
    have eB : ((cs.map fun c => (leafT c, [c])).map Prod.snd).flatten = cs := by
      rw [List.map_map]
      clear h hS k eA
      induction cs with
      | nil => rfl
      | cons c r ih => simpa using ih
    have e := told_above (st := st) 4 0 (cs.map fun c => (leafT c, [c])) (fun e => by have := congrArg List.length e; simp at this; rw [this] at k; exact absurd k.1 (by simp)) (by rw [List.length_map]; have : 4 ^ 4 = 256 := rfl; omega) (fun p hp => by
      obtain ⟨c, hc, rfl⟩ := List.mem_map.1 hp
      exact exp_leaf (hS _ (List.mem_append_left _ (List.mem_map.2 ⟨c, hc, rfl⟩)))) (fun x hx => hS x (List.mem_append_right _ (by rw [← eA]; exact hx))) (by rw [eB]; exact k.2.1) (by omega)
    rw [eA, eB] at e
    exact e
  · exact absurd rfl h
/-- what one comes to -/
inductive Rch (st : Int → Option ByteArray) (roots : List Int) : Int → Prop
  | root {d : Int} : d ∈ roots → Rch st roots d
  | next {d c : Int} {s : ByteArray} {l : List Int} : Rch st roots d → st d = some s → childT s = some l → c ∈ l → Rch st roots c
/-- the row of what one comes to, rising -/
def IsReach (st : Int → Option ByteArray) (roots R : List Int) : Prop := R.Pairwise (· < ·) ∧ ∀ d, d ∈ R ↔ Rch st roots d
theorem rising_same : ∀ {l m : List Int}, l.Pairwise (· < ·) → m.Pairwise (· < ·) → (∀ p, p ∈ l ↔ p ∈ m) → l = m
  | [], [], _, _, _ => rfl
  | [], q :: m, _, _, h => by have := (h q).2 (by simp); cases this
  | p :: l, [], _, _, h => by have := (h p).1 (by simp); cases this
  | p :: l, q :: m, hl, hm, h => by
    obtain ⟨a1, a2⟩ := List.pairwise_cons.1 hl
    obtain ⟨b1, b2⟩ := List.pairwise_cons.1 hm
    have hpq : p = q := by
      rcases List.mem_cons.1 ((h p).1 (by simp)) with e | e
      · exact e
      · rcases List.mem_cons.1 ((h q).2 (by simp)) with e2 | e2
        · exact e2.symm
        · have := b1 p e
          have := a1 q e2
          omega
    subst hpq
    rw [rising_same a2 b2 fun x => ⟨fun hx => ?_, fun hx => ?_⟩]
    · rcases List.mem_cons.1 ((h x).1 (by simp [hx])) with e | e
      · have := a1 x hx
        omega
      · exact e
    · rcases List.mem_cons.1 ((h x).2 (by simp [hx])) with e | e
      · have := b1 x hx
        omega
      · exact e
theorem reach_same {st : Int → Option ByteArray} {roots R S : List Int} (h : IsReach st roots R) (k : IsReach st roots S) : R = S :=
  rising_same h.1 k.1 fun p => (h.2 p).trans (k.2 p).symm
/-- of less one comes to no more -/
theorem rch_less {st su : Int → Option ByteArray} {roots : List Int} (h : ∀ d s, st d = some s → su d = some s) {d : Int} (k : Rch st roots d) : Rch su roots d := by
  induction k with
  | root h1 => exact Rch.root h1
  | next _ h2 h3 h4 ih => exact Rch.next ih (h _ _ h2) h3 h4
end Go.Proofs.YtdiammehnakchacGreat
