/- BLOCKS, over texts: a text's blocks; a fresh text told by an old one's whole blocks, and made of them again. It speaks of no function of the program. -/
import Derived.Test.YtdiammehnakchacSentMath
namespace Go.Proofs.Ytdiammehnakchac
set_option linter.unusedVariables false
/-- the block of a number -/
def blkT (s : ByteArray) (n k : Nat) : ByteArray := s.extract (k * n) (min (k * n + n) s.size)
/-- how many there are -/
def blkN (s : ByteArray) (n : Nat) : Nat := (s.size + n - 1) / n
def blksK (s : ByteArray) (n k : Nat) : List ByteArray := (List.range k).map (blkT s n)
theorem blksK_succ (s : ByteArray) (n k : Nat) : blksK s n (k + 1) = blksK s n k ++ [blkT s n k] := by simp [blksK, List.range_succ]
theorem blksK_len (s : ByteArray) (n k : Nat) : (blksK s n k).length = k := by simp [blksK]
theorem blksK_get {s : ByteArray} {n k j : Nat} (h : j < k) : (blksK s n k).getD j ByteArray.empty = blkT s n j := by simp [blksK, List.getD, h]
/-- what Blocks tells -/
abbrev okN9 (n : Int) : Prop := 1 ≤ n ∧ n ≤ 100
def blocksT (s : ByteArray) (n : Int) : List ByteArray := if okN9 n ∧ s.size ≤ 20000 then blksK s n.toNat (blkN s n.toNat) else []
theorem blkN_lt {s : ByteArray} {n k : Nat} (hn : 1 ≤ n) : k < blkN s n ↔ k * n < s.size := by
  unfold blkN
  rw [Nat.lt_div_iff_mul_lt hn]
  constructor
  · intro h
    have e : n * k = k * n := Nat.mul_comm _ _
    omega
  · intro h
    have e : n * k = k * n := Nat.mul_comm _ _
    omega
theorem blkN_le {s : ByteArray} {n : Nat} (hn : 1 ≤ n) : blkN s n ≤ s.size := by
  rcases Nat.lt_or_ge s.size (blkN s n) with h | h
  · have h1 := (blkN_lt (k := s.size) hn).1 h
    have h2 : s.size * 1 ≤ s.size * n := Nat.mul_le_mul_left _ hn
    omega
  · exact h
theorem blkT_size (s : ByteArray) (n k : Nat) (h : k * n ≤ s.size) : (blkT s n k).size = min n (s.size - k * n) := by
  unfold blkT
  rw [ByteArray.size_extract]
  omega
theorem blkT_le (s : ByteArray) (n k : Nat) : (blkT s n k).size ≤ n := by
  unfold blkT
  rw [ByteArray.size_extract]
  omega
/-- the first whole block that is there -/
def foundT (old fresh : ByteArray) (n p : Nat) : Option Nat := if p + n ≤ fresh.size then (List.range (old.size / n)).find? fun k => decide (blkT old n k = fresh.extract p (p + n)) else none
theorem find_range {q : Nat → Bool} {m k : Nat} (hk : k < m) (hq : q k = true) (hn : ∀ j, j < k → q j = false) : (List.range m).find? q = some k := by
  rw [List.find?_range_eq_some]
  exact ⟨hq, by simpa using hk, fun j hj => by rw [hn j hj]; rfl⟩
theorem find_range_none {q : Nat → Bool} {m : Nat} (hn : ∀ j, j < m → q j = false) : (List.range m).find? q = none := by
  rw [List.find?_eq_none]
  intro x hx
  rw [hn x (List.mem_range.1 hx)]
  exact fun h => by cases h
theorem found_some {old fresh : ByteArray} {n p k : Nat} (h : foundT old fresh n p = some k) : p + n ≤ fresh.size ∧ k < old.size / n ∧ blkT old n k = fresh.extract p (p + n) ∧ ∀ j, j < k → ¬ blkT old n j = fresh.extract p (p + n) := by
  unfold foundT at h
  split at h
  · rename_i h1
    rw [List.find?_range_eq_some] at h
    refine ⟨h1, by simpa using h.2.1, by simpa using h.1, fun j hj => ?_⟩
    have := h.2.2 j hj
    simpa using this
  · cases h
theorem found_is {old fresh : ByteArray} {n p k : Nat} (h1 : p + n ≤ fresh.size) (h2 : k < old.size / n) (h3 : blkT old n k = fresh.extract p (p + n)) (h4 : ∀ j, j < k → ¬ blkT old n j = fresh.extract p (p + n)) : foundT old fresh n p = some k := by
  unfold foundT
  rw [if_pos h1]
  exact find_range h2 (by simpa using h3) (fun j hj => by simpa using h4 j hj)
theorem found_no {old fresh : ByteArray} {n p : Nat} (h : p + n ≤ fresh.size → ∀ j, j < old.size / n → ¬ blkT old n j = fresh.extract p (p + n)) : foundT old fresh n p = none := by
  unfold foundT
  split
  · rename_i h1
    exact find_range_none (fun j hj => by simpa using h h1 j hj)
  · rfl
theorem found_none {old fresh : ByteArray} {n p : Nat} (h1 : p + n ≤ fresh.size) (h : foundT old fresh n p = none) : ∀ j, j < old.size / n → ¬ blkT old n j = fresh.extract p (p + n) := by
  unfold foundT at h
  rw [if_pos h1, List.find?_eq_none] at h
  intro j hj
  have := h j (List.mem_range.2 hj)
  simpa using this
/-- a list and a Bit of the text behind it, where there is any -/
def withT (out : List Bl) (t : ByteArray) : List Bl := if t.size = 0 then out else out ++ [(-1, t)]
def blkB (k : Nat) : Bl := ((k : Int), ⟨#[]⟩)
/-- what is told from p on, where the bytes from fr on are still to be told -/
def dG (old fresh : ByteArray) (n : Nat) (fr p : Nat) (out : List Bl) : List Bl :=
  if h : p + n ≤ fresh.size ∧ 0 < n then
    match foundT old fresh n p with
    | some k => dG old fresh n (p + n) (p + n) (withT out (fresh.extract fr p) ++ [blkB k])
    | none => dG old fresh n fr (p + 1) out
  else withT out (fresh.extract fr fresh.size)
termination_by fresh.size - p
decreasing_by all_goals omega
theorem dG_end {old fresh : ByteArray} {n fr p : Nat} {out : List Bl} (h : ¬ p + n ≤ fresh.size) : dG old fresh n fr p out = withT out (fresh.extract fr fresh.size) := by
  rw [dG, dif_neg (fun k => h k.1)]
theorem dG_hit {old fresh : ByteArray} {n fr p k : Nat} {out : List Bl} (hn : 0 < n) (h : foundT old fresh n p = some k) : dG old fresh n fr p out = dG old fresh n (p + n) (p + n) (withT out (fresh.extract fr p) ++ [blkB k]) := by
  rw [dG, dif_pos ⟨(found_some h).1, hn⟩, h]
theorem dG_miss {old fresh : ByteArray} {n fr p : Nat} {out : List Bl} (hn : 0 < n) (h1 : p + n ≤ fresh.size) (h : foundT old fresh n p = none) : dG old fresh n fr p out = dG old fresh n fr (p + 1) out := by
  rw [dG, dif_pos ⟨h1, hn⟩, h]
theorem dG_miss2 {old fresh : ByteArray} {n fr p : Nat} {out : List Bl} (hn : 0 < n) (h : foundT old fresh n p = none) : dG old fresh n fr p out = dG old fresh n fr (p + 1) out := by
  by_cases h1 : p + n ≤ fresh.size
  · exact dG_miss hn h1 h
  · rw [dG_end h1, dG_end (by omega)]
/-- what Delta tells -/
def deltaT (old fresh : ByteArray) (n : Int) : List Bl := if okN9 n ∧ old.size ≤ 20000 ∧ fresh.size ≤ 20000 then dG old fresh n.toNat 0 0 [] else []
/-- what a Bit tells -/
def bitT (old : ByteArray) (n : Nat) (b : Bl) : Option ByteArray := if b.1 = -1 then some b.2 else if b.2.size = 0 ∧ 0 ≤ b.1 ∧ b.1 < (blkN old n : Int) then some (blkT old n b.1.toNat) else none
def patF (old : ByteArray) (n : Nat) : List Bl → List Int → Option (List Int)
  | [], o => some o
  | b :: r, o => match bitT old n b with
    | none => none
    | some t => if o.length + t.size ≤ 20000 then patF old n r (o ++ byts t) else none
/-- what Patched tells -/
def patchT (old : ByteArray) (l : List Bl) (n : Int) : Option ByteArray := if okN9 n ∧ old.size ≤ 20000 then (patF old n.toNat l []).map asB else none
theorem patF_app (old : ByteArray) (n : Nat) : ∀ (l m : List Bl) (o : List Int), patF old n (l ++ m) o = (patF old n l o).bind (patF old n m)
  | [], m, o => rfl
  | b :: r, m, o => by
    rw [List.cons_append, patF, patF]
    cases bitT old n b with
    | none => rfl
    | some t =>
      simp only
      split
      · exact patF_app old n r m _
      · rfl
theorem patF_one (old : ByteArray) (n : Nat) (b : Bl) (o : List Int) {t : ByteArray} (h : bitT old n b = some t) (hl : o.length + t.size ≤ 20000) : patF old n [b] o = some (o ++ byts t) := by
  rw [patF, h]
  simp only
  rw [if_pos hl, patF]
theorem byts_sub (s : ByteArray) (a b : Nat) : byts (s.extract a b) = ((byts s).drop a).take (b - a) := by
  unfold byts
  rw [ByteArray.data_extract, Array.toList_extract]
  simp [List.extract, List.map_take, List.map_drop]
theorem byts_cat3 {s : ByteArray} {a b : Nat} (h : a ≤ b) (hb : b ≤ s.size) : (byts s).take a ++ byts (s.extract a b) = (byts s).take b := by
  rw [byts_sub]
  have e : b = a + (b - a) := by omega
  conv => rhs; rw [e, List.take_add]
theorem patF_with {old : ByteArray} {n : Nat} {fresh : ByteArray} {out : List Bl} {fr p : Nat} (h : patF old n out [] = some ((byts fresh).take fr)) (h1 : fr ≤ p) (h2 : p ≤ fresh.size) (hs : fresh.size ≤ 20000) : patF old n (withT out (fresh.extract fr p)) [] = some ((byts fresh).take p) := by
  have hl : ((byts fresh).take fr).length = fr := by rw [List.length_take, byts_len]; omega
  have hz : (fresh.extract fr p).size = p - fr := by rw [ByteArray.size_extract]; omega
  unfold withT
  split
  · have e : p = fr := by omega
    rw [e]; exact h
  · rw [patF_app, h]
    show patF old n [(-1, fresh.extract fr p)] ((byts fresh).take fr) = _
    rw [patF_one old n (-1, fresh.extract fr p) _ (t := fresh.extract fr p) (by unfold bitT; rw [if_pos rfl]) (by omega), byts_cat3 h1 h2]
theorem patF_hit {old : ByteArray} {n : Nat} {fresh : ByteArray} {out : List Bl} {p k : Nat} (hn : 1 ≤ n) (h : patF old n out [] = some ((byts fresh).take p)) (hf : foundT old fresh n p = some k) (hs : fresh.size ≤ 20000) : patF old n (out ++ [blkB k]) [] = some ((byts fresh).take (p + n)) := by
  obtain ⟨h1, h2, h3, _⟩ := found_some hf
  have hl : ((byts fresh).take p).length = p := by rw [List.length_take, byts_len]; omega
  have hk : k < blkN old n := (blkN_lt hn).2 (by
    have := (Nat.lt_div_iff_mul_lt hn).1 h2
    have e : n * k = k * n := Nat.mul_comm _ _
    omega)
  have hz : (fresh.extract p (p + n)).size = n := by rw [ByteArray.size_extract]; omega
  rw [patF_app, h]
  show patF old n [blkB k] ((byts fresh).take p) = _
  rw [patF_one old n (blkB k) _ (t := fresh.extract p (p + n)) (by
    unfold bitT blkB
    rw [if_neg (by simp only; omega), if_pos ⟨rfl, by simp only; omega, by simp only; omega⟩, ← h3]
    rfl) (by omega), byts_cat3 (by omega) h1]
theorem dG_patched {old : ByteArray} {n : Nat} {fresh : ByteArray} (hn : 1 ≤ n) (hs : fresh.size ≤ 20000) : ∀ (m fr p : Nat) (out : List Bl), fresh.size - p ≤ m → fr ≤ p → p ≤ fresh.size → patF old n out [] = some ((byts fresh).take fr) → patF old n (dG old fresh n fr p out) [] = some (byts fresh) := by
  have fin : ∀ (fr : Nat) (out : List Bl), fr ≤ fresh.size → patF old n out [] = some ((byts fresh).take fr) → patF old n (withT out (fresh.extract fr fresh.size)) [] = some (byts fresh) := fun fr out h1 h => by
    rw [patF_with h h1 (Nat.le_refl _) hs, List.take_of_length_le (by rw [byts_len]; exact Nat.le_refl _)]
  intro m
  induction m with
  | zero =>
    intro fr p out hm hf hp h
    rw [dG_end (by omega)]
    exact fin fr out (by omega) h
  | succ m ih =>
    intro fr p out hm hf hp h
    by_cases h1 : p + n ≤ fresh.size
    · cases hx : foundT old fresh n p with
      | some k =>
        rw [dG_hit hn hx]
        exact ih _ _ _ (by omega) (Nat.le_refl _) h1 (patF_hit hn (patF_with h hf hp hs) hx hs)
      | none =>
        rw [dG_miss hn h1 hx]
        exact ih _ _ _ (by omega) (by omega) (by omega) h
    · rw [dG_end h1]
      exact fin fr out (by omega) h
theorem asB_byts9 (u : ByteArray) : asB (byts u) = u := by
  have h := asB_byts (byts u) (fun x hx => by
    unfold byts at hx
    obtain ⟨b, _, rfl⟩ := List.mem_map.1 hx
    have := b.toNat_lt
    omega)
  have e : ∀ a b : ByteArray, byts a = byts b → a = b := fun a b h => by
    cases a with | mk x =>
    cases b with | mk y =>
    congr 1
    apply Array.ext'
    have h2 : x.toList.map (fun b => (b.toNat : Int)) = y.toList.map (fun b => (b.toNat : Int)) := h
    have inj : ∀ (l m : List UInt8), l.map (fun b => (b.toNat : Int)) = m.map (fun b => (b.toNat : Int)) → l = m := by
      intro l
      induction l with
      | nil => intro m h; cases m with
        | nil => rfl
        | cons c r => cases h
      | cons c r ih => intro m h; cases m with
        | nil => cases h
        | cons d t =>
          simp only [List.map_cons, List.cons.injEq] at h
          have e1 := h.1
          have e2 : c = d := UInt8.toNat_inj.1 (by omega)
          rw [ih t h.2, e2]
    exact inj _ _ h2
  exact e _ _ h
/-- the fresh text is patched of the old one and what changed -/
theorem patch_delta {old fresh : ByteArray} {n : Int} (hn : okN9 n) (h1 : old.size ≤ 20000) (h2 : fresh.size ≤ 20000) : patchT old (deltaT old fresh n) n = some fresh := by
  unfold patchT deltaT
  rw [if_pos ⟨hn, h1⟩, if_pos ⟨hn, h1, h2⟩, dG_patched (by have := hn.1; omega) h2 fresh.size 0 0 [] (by omega) (Nat.le_refl _) (Nat.zero_le _) rfl]
  show some (asB (byts fresh)) = some fresh
  rw [asB_byts9]
theorem sent_with (out : List Bl) (t : ByteArray) : sentT (withT out t) = sentT out + t.size := by
  unfold withT
  split
  · omega
  · rw [sentT_app]; simp [sentT]
theorem sent_blk (out : List Bl) (k : Nat) : sentT (out ++ [blkB k]) = sentT out := by rw [sentT_app]; exact Nat.add_zero _
theorem dG_sent {old : ByteArray} {n : Nat} {fresh : ByteArray} (hn : 1 ≤ n) : ∀ (m fr p : Nat) (out : List Bl), fresh.size - p ≤ m → fr ≤ p → p ≤ fresh.size → sentT out ≤ fr → sentT (dG old fresh n fr p out) ≤ fresh.size := by
  have fin : ∀ (fr : Nat) (out : List Bl), fr ≤ fresh.size → sentT out ≤ fr → sentT (withT out (fresh.extract fr fresh.size)) ≤ fresh.size := fun fr out h1 h => by
    rw [sent_with, ByteArray.size_extract]; omega
  intro m
  induction m with
  | zero =>
    intro fr p out hm hf hp h
    rw [dG_end (by omega)]
    exact fin fr out (by omega) h
  | succ m ih =>
    intro fr p out hm hf hp h
    by_cases h1 : p + n ≤ fresh.size
    · cases hx : foundT old fresh n p with
      | some k =>
        rw [dG_hit hn hx]
        exact ih _ _ _ (by omega) (Nat.le_refl _) h1 (by rw [sent_blk, sent_with, ByteArray.size_extract]; omega)
      | none =>
        rw [dG_miss hn h1 hx]
        exact ih _ _ _ (by omega) (by omega) (by omega) h
    · rw [dG_end h1]
      exact fin fr out (by omega) h
theorem sent_delta {old fresh : ByteArray} {n : Int} : sentT (deltaT old fresh n) ≤ fresh.size := by
  unfold deltaT
  split
  · rename_i h
    exact dG_sent (by have := h.1.1; omega) fresh.size 0 0 [] (by omega) (Nat.le_refl _) (Nat.zero_le _) (Nat.le_refl _)
  · exact Nat.zero_le _
theorem dG_self {s : ByteArray} {n : Nat} (hn : 1 ≤ n) : ∀ (m k : Nat) (out : List Bl), s.size - k * n ≤ m → k * n ≤ s.size → sentT out = 0 → sentT (dG s s n (k * n) (k * n) out) = s.size % n := by
  intro m
  induction m with
  | zero =>
    intro k out hm hk h
    rw [dG_end (by omega), sent_with, ByteArray.size_extract, h]
    have e : s.size = k * n := by omega
    rw [e, Nat.mul_mod_left]
    omega
  | succ m ih =>
    intro k out hm hk h
    by_cases h1 : k * n + n ≤ s.size
    · cases hx : foundT s s n (k * n) with
      | some j =>
        rw [dG_hit hn hx, show k * n + n = (k + 1) * n by rw [Nat.add_mul]; omega]
        refine ih _ _ (by rw [Nat.add_mul]; omega) (by rw [Nat.add_mul]; omega) ?_
        rw [sent_blk, sent_with, h, ByteArray.size_extract]
        omega
      | none =>
        refine absurd ?_ (found_none h1 hx k ((Nat.lt_div_iff_mul_lt hn).2 (by have e : n * k = k * n := Nat.mul_comm _ _; omega)))
        unfold blkT
        rw [Nat.min_eq_left h1]
    · rw [dG_end h1, sent_with, ByteArray.size_extract, h]
      have e : s.size = (s.size - k * n) + n * k := by rw [Nat.mul_comm n k]; omega
      rw [e, Nat.add_mul_mod_self_left, Nat.mod_eq_of_lt (by omega)]
      have e2 : n * k = k * n := Nat.mul_comm _ _
      omega
theorem sent_self {s : ByteArray} {n : Int} (hn : okN9 n) (hs : s.size ≤ 20000) : (sentT (deltaT s s n) : Int) = (s.size : Int) % n := by
  unfold deltaT
  rw [if_pos ⟨hn, hs, hs⟩]
  obtain ⟨m, rfl⟩ : ∃ m : Nat, n = m := ⟨n.toNat, by have := hn.1; omega⟩
  have h := dG_self (s := s) (n := m) (by have := hn.1; omega) s.size 0 [] (by omega) (by omega) rfl
  rw [Nat.zero_mul] at h
  rw [Int.toNat_natCast, h]
  omega
end Go.Proofs.Ytdiammehnakchac
