/- WHAT IS DRAWN IS FAR FROM 2001 NOUGHTS: no text of at most five letters a, b, c of which at most one is another byte has their digest. By counting all of them. It speaks of no function of the program. -/
import Derived.Test.YtfoncmeplofedabDig
import Derived.Test.YtfoncmeplofedabBlobs
namespace Go.Proofs.Ytfoncmeplofedab
open Go.RowKit
def nst (h b : Nat) : Nat := (h * 1000003 + b + 1) % 2147483647
def ne1 (h : Nat) : Bool := !(Nat.beq h 422356391)
def allL (f : Nat → Bool) (h : Nat) : Bool := f (nst h 97) && (f (nst h 98) && f (nst h 99))
def allB (f : Nat → Bool) (h : Nat) : Nat → Bool
  | 0 => true
  | n + 1 => f (nst h n) && allB f h n
def fU : Nat → Nat → Bool
  | 0, h => ne1 h
  | n + 1, h => ne1 h && allL (fU n) h
def fF : Nat → Nat → Bool
  | 0, h => ne1 h
  | n + 1, h => ne1 h && (allL (fF n) h && allB (fU n) h 256)
set_option maxRecDepth 100000 in
theorem fF5 : fF 5 1 = true := by decide +kernel
def iter0 : Nat → Nat → Nat
  | 0, h => h
  | n + 1, h => iter0 n (nst h 0)
set_option maxRecDepth 100000 in
theorem iter2001 : iter0 2001 1 = 422356391 := by decide +kernel
theorem dStep_nat (h b : Nat) : dStep (h : Int) (b : Int) = (nst h b : Int) := by
  unfold dStep nst
  omega
theorem ne1_of {h : Nat} (k : ne1 h = true) : (h : Int) ≠ 422356391 := fun e => by
  have e2 : h = 422356391 := by omega
  subst e2
  cases k
theorem fU_ne {n h : Nat} (k : fU n h = true) : ne1 h = true := by
  cases n with
  | zero => exact k
  | succ n => unfold fU at k; rw [Bool.and_eq_true] at k; exact k.1
theorem fF_ne {n h : Nat} (k : fF n h = true) : ne1 h = true := by
  cases n with
  | zero => exact k
  | succ n => unfold fF at k; rw [Bool.and_eq_true] at k; exact k.1
theorem allL_at {f : Nat → Bool} {h : Nat} (k : allL f h = true) {b : Nat} (h1 : 97 ≤ b) (h2 : b ≤ 99) : f (nst h b) = true := by
  unfold allL at k
  rw [Bool.and_eq_true, Bool.and_eq_true] at k
  rcases (show b = 97 ∨ b = 98 ∨ b = 99 by omega) with rfl | rfl | rfl
  · exact k.1
  · exact k.2.1
  · exact k.2.2
theorem allB_at {f : Nat → Bool} {h : Nat} : ∀ {n : Nat}, allB f h n = true → ∀ {b : Nat}, b < n → f (nst h b) = true
  | 0, _, b, hb => absurd hb (Nat.not_lt_zero _)
  | n + 1, k, b, hb => by
    unfold allB at k
    rw [Bool.and_eq_true] at k
    rcases Nat.lt_or_ge b n with g | g
    · exact allB_at k.2 g
    · obtain rfl : b = n := by omega
      exact k.1
/-- letters a, b, c alone -/
def LetL (L : List Int) : Prop := ∀ x ∈ L, 97 ≤ x ∧ x ≤ 99
/-- .. but for one byte at most -/
def Once : List Int → Prop
  | [] => True
  | b :: r => (97 ≤ b ∧ b ≤ 99 ∧ Once r) ∨ (0 ≤ b ∧ b ≤ 255 ∧ LetL r)
theorem letL_once : ∀ {L : List Int}, LetL L → Once L
  | [], _ => trivial
  | b :: r, h => Or.inl ⟨(h b (by simp)).1, (h b (by simp)).2, letL_once fun x hx => h x (by simp [hx])⟩
theorem once_set : ∀ {L : List Int} {i : Nat} {y : Int}, LetL L → 0 ≤ y → y ≤ 255 → Once (L.set i y)
  | [], _, _, _, _, _ => trivial
  | b :: r, 0, y, h, h0, h1 => Or.inr ⟨h0, h1, fun x hx => h x (by simp [hx])⟩
  | b :: r, i + 1, y, h, h0, h1 => Or.inl ⟨(h b (by simp)).1, (h b (by simp)).2, once_set (fun x hx => h x (by simp [hx])) h0 h1⟩
theorem letL_far : ∀ (L : List Int) (n h : Nat), fU n h = true → L.length ≤ n → LetL L → L.foldl dStep (h : Int) ≠ 422356391
  | [], n, h, k, _, _ => ne1_of (fU_ne k)
  | b :: r, n, h, k, hl, hL => by
    obtain ⟨n, rfl⟩ : ∃ m, n = m + 1 := ⟨n - 1, by simp at hl; omega⟩
    obtain ⟨h1, h2⟩ := hL b (by simp)
    obtain ⟨c, rfl⟩ := Int.eq_ofNat_of_zero_le (show 0 ≤ b by omega)
    rw [List.foldl_cons, dStep_nat]
    unfold fU at k
    rw [Bool.and_eq_true] at k
    exact letL_far r n _ (allL_at k.2 (by omega) (by omega)) (by simpa using hl) fun x hx => hL x (by simp [hx])
theorem once_far : ∀ (L : List Int) (n h : Nat), fF n h = true → L.length ≤ n → Once L → L.foldl dStep (h : Int) ≠ 422356391
  | [], n, h, k, _, _ => ne1_of (fF_ne k)
  | b :: r, n, h, k, hl, hL => by
    obtain ⟨n, rfl⟩ : ∃ m, n = m + 1 := ⟨n - 1, by simp at hl; omega⟩
    unfold fF at k
    rw [Bool.and_eq_true, Bool.and_eq_true] at k
    rcases hL with ⟨h1, h2, h3⟩ | ⟨h1, h2, h3⟩
    · obtain ⟨c, rfl⟩ := Int.eq_ofNat_of_zero_le (show 0 ≤ b by omega)
      rw [List.foldl_cons, dStep_nat]
      exact once_far r n _ (allL_at k.2.1 (by omega) (by omega)) (by simpa using hl) h3
    · obtain ⟨c, rfl⟩ := Int.eq_ofNat_of_zero_le h1
      rw [List.foldl_cons, dStep_nat]
      exact letL_far r n _ (allB_at k.2.2 (by omega)) (by simpa using hl) h3
theorem once_bytes : ∀ {L : List Int}, Once L → Bytes L
  | [], _ => fun x hx => absurd hx List.not_mem_nil
  | b :: r, h => fun x hx => by
    rcases List.mem_cons.1 hx with rfl | hx
    · rcases h with h | h <;> omega
    · rcases h with h | h
      · exact once_bytes h.2.2 x hx
      · have := h.2.2 x hx; omega
/-- a drawn text has not the digest of 2001 noughts -/
theorem once_digest {L : List Int} (h : Once L) (hl : L.length ≤ 5) : digest (asB L) ≠ 422356391 := by
  unfold digest dTold
  rw [asB_byts L (once_bytes h)]
  have := once_far L 5 1 fF5 hl h
  unfold digL
  split
  · omega
  · exact this
theorem fold_zeros : ∀ (n h : Nat), (List.replicate n (0 : Int)).foldl dStep (h : Int) = (iter0 n h : Int)
  | 0, h => rfl
  | n + 1, h => by
    rw [List.replicate_succ, List.foldl_cons, show (0 : Int) = ((0 : Nat) : Int) from rfl, dStep_nat]
    exact fold_zeros n (nst h 0)
theorem zeros_digest : digest (asB (List.replicate 2001 (0 : Int))) = 422356391 := by
  unfold digest dTold
  rw [asB_byts _ (fun x hx => by rw [List.eq_of_mem_replicate hx]; omega)]
  have e : digL (List.replicate 2001 (0 : Int)) = 422356391 := by
    unfold digL
    have h := fold_zeros 2001 1
    rw [iter2001] at h
    exact h
  rw [e]
  rfl
/-- no blob that is right has that digest -/
def Far (l : List Bl) : Prop := ∀ p ∈ l, (p.1 = digest p.2 → p.1 ≠ 422356391) ∧ In64 p.1
def Fa (l : List Bl) : Prop := ∀ p ∈ l, p.1 = digest p.2 ∧ p.1 ≠ 422356391
theorem in64_digest (s : ByteArray) : In64 (digest s) := by
  have := digest_in s
  exact ⟨by omega, by omega⟩
theorem fa_far {l : List Bl} (h : Fa l) : Far l := fun p hp => ⟨fun _ => (h p hp).2, by rw [(h p hp).1]; exact in64_digest _⟩
end Go.Proofs.Ytfoncmeplofedab
