/- PLAIN MATHEMATICS: what is laid is read, and what is read was laid so; no part of it is. It speaks of no program. -/
import Derived.Test.YtfoncmeplofedaqDoorItems
import Derived.Test.YtfoncmeplofedaqDoorNumbers
namespace Go.Proofs.YtfoncmeplofedaqDoor
open Go.RowKit

theorem bytes_drop' {zs : List Int} (h : Bytes zs) (n : Nat) : Bytes (zs.drop n) := fun x hx => h x (List.mem_of_mem_drop hx)

theorem rdF_enc (L : List Int) : ∀ (i n m k : Nat), Bytes L → rdF i n L = some (m, k) → ∃ x : Nat, m = n + x * 128 ^ i ∧ L.take (k - i) = enc x ∧ (0 < i → 0 < x) ∧ i < k := by
  induction L with
  | nil => intro i n m k _ h; simp [rdF] at h
  | cons b r ih =>
    intro i n m k hb h
    have hb0 := hb b List.mem_cons_self
    rw [rdF] at h
    by_cases h1 : b < 128
    · rw [if_pos h1] at h
      by_cases h2 : 1099511627776 < n + b.toNat % 128 * 128 ^ i ∨ (b = 0 ∧ 0 < i)
      · rw [if_pos h2] at h; cases h
      · rw [if_neg h2] at h
        simp only [Option.some.injEq, Prod.mk.injEq] at h
        have hm : b.toNat % 128 = b.toNat := Nat.mod_eq_of_lt (by omega)
        refine ⟨b.toNat, by rw [← h.1, hm], ?_, ?_, by omega⟩
        · rw [show k - i = 1 by omega, enc_last _ (by omega), List.take_succ_cons, List.take_zero, Int.toNat_of_nonneg hb0.1]
        · intro hi
          have : ¬ (b = 0 ∧ 0 < i) := fun h => h2 (Or.inr h)
          omega
    · rw [if_neg h1] at h
      obtain ⟨x, hx, ht, hp, hk⟩ := ih (i + 1) _ m k (fun y hy => hb y (List.mem_cons_of_mem _ hy)) h
      have hx0 := hp (by omega)
      refine ⟨b.toNat % 128 + 128 * x, ?_, ?_, fun _ => by omega, by omega⟩
      · rw [hx, Nat.pow_succ, Nat.add_mul]
        have e : x * (128 ^ i * 128) = 128 * x * 128 ^ i := by rw [Nat.mul_comm (128 ^ i) 128, ← Nat.mul_assoc, Nat.mul_comm x 128]
        rw [e]; omega
      · rw [show k - i = (k - (i + 1)) + 1 by omega, List.take_succ_cons, ht, enc_more (b.toNat % 128 + 128 * x) (by omega)]
        have e1 : (b.toNat % 128 + 128 * x) / 128 = x := by omega
        have e2 : (((b.toNat % 128 + 128 * x) % 128 + 128 : Nat) : Int) = b := by omega
        rw [e1, e2]

theorem rd_enc {zs : List Int} {m k : Nat} (hb : Bytes zs) (h : rd zs = some (m, k)) : zs.take k = enc m ∧ 0 < k := by
  obtain ⟨x, hx, ht, _, hk⟩ := rdF_enc _ _ _ _ _ (bytes_take hb 6) h
  have hk6 := (rdF_some _ _ _ _ _ h).2.1
  have hl : (zs.take 6).length ≤ 6 := List.length_take_le _ _
  have e : m = x := by rw [hx]; simp
  rw [e]
  refine ⟨?_, hk⟩
  rw [Nat.sub_zero, List.take_take, show min k 6 = k by omega] at ht
  exact ht

theorem enc_rdF (K : Nat) : ∀ (x i n : Nat) (r : List Int), x ≤ K → n + x * 128 ^ i ≤ 1099511627776 → (0 < i → 0 < x) → rdF i n (enc x ++ r) = some (n + x * 128 ^ i, i + (enc x).length) := by
  induction K with
  | zero =>
    intro x i n r hx hm hp
    have hx0 : x = 0 := by omega
    subst hx0
    have hi : i = 0 := by
      cases i with
      | zero => rfl
      | succ i => exact absurd (hp (by omega)) (by omega)
    subst hi
    rw [enc_last 0 (by omega)]
    simp only [List.cons_append, List.nil_append, rdF]
    rw [if_pos (by omega), if_neg (by simp; omega)]
    simp
  | succ K ih =>
    intro x i n r hx hm hp
    by_cases h1 : x < 128
    · rw [enc_last x h1]
      simp only [List.cons_append, List.nil_append, rdF]
      have e : ((x : Int)).toNat % 128 = x := by omega
      rw [if_pos (by omega), e, if_neg (by
        intro h
        rcases h with h | h
        · omega
        · have := hp h.2; omega)]
      simp
    · rw [enc_more x (by omega)]
      simp only [List.cons_append, rdF]
      have e : (((x % 128 + 128 : Nat) : Int)).toNat % 128 = x % 128 := by omega
      have e2 : n + x % 128 * 128 ^ i + x / 128 * 128 ^ (i + 1) = n + x * 128 ^ i := by
        rw [Nat.pow_succ, Nat.add_assoc]
        congr 1
        have e3 : x / 128 * (128 ^ i * 128) = (128 * (x / 128)) * 128 ^ i := by rw [Nat.mul_comm (128 ^ i) 128, ← Nat.mul_assoc, Nat.mul_comm (x / 128) 128]
        rw [e3, ← Nat.add_mul]
        congr 1
        omega
      rw [if_neg (by omega), e, ih (x / 128) (i + 1) _ r (by omega) (by rw [e2]; exact hm) (fun _ => by omega), e2, List.length_cons]
      congr 2
      omega

theorem enc_rd {m : Nat} (h : m ≤ 1099511627776) (r : List Int) : rd (enc m ++ r) = some (m, (enc m).length) := by
  unfold rd
  have hl := enc_len6 m h
  rw [List.take_append, List.take_of_length_le hl, enc_rdF m m 0 0 _ (Nat.le_refl _) (by simpa using h) (by omega)]
  simp

theorem flat_cons (x : Int) (l : List Int) : flat (x :: l) = enc x.toNat ++ flat l := by simp [flat]
theorem flat_append (a b : List Int) : flat (a ++ b) = flat a ++ flat b := by simp [flat]

/-- reading what was laid, with something behind it -/
theorem fin_flat (zs : List Int) (rest : List Int) : ∀ (todo pre acc : List Int), (∀ x ∈ todo, okN x) → zs = pre ++ flat todo ++ rest → fin (rdI zs) zs.length acc todo.length pre.length = if rest = [] then some (acc ++ todo) else none := by
  intro todo
  induction todo with
  | nil =>
    intro pre acc _ hz
    rw [List.length_nil, fin_zero, List.append_nil]
    have hl : zs.length = pre.length + rest.length := by rw [hz]; simp [flat]
    by_cases hr : rest = []
    · rw [if_pos hr, if_pos (by rw [hl, hr]; simp)]
    · have hpos : 0 < rest.length := List.length_pos_iff.2 hr
      rw [if_neg hr, if_neg (by omega)]
  | cons x r ih =>
    intro pre acc hok hz
    have hx := hok x List.mem_cons_self
    have hm : x.toNat ≤ 1099511627776 := by omega
    have hd : zs.drop pre.length = enc x.toNat ++ (flat r ++ rest) := by
      rw [hz, flat_cons, List.append_assoc, List.drop_left, List.append_assoc]
    have hp : rdP zs pre.length = some (x.toNat, (enc x.toNat).length) := by unfold rdP; rw [hd]; exact enc_rd hm _
    rw [List.length_cons, fin_some _ _ _ _ _ (rdI_some hp), Int.toNat_of_nonneg hx.1]
    have h := ih (pre ++ enc x.toNat) (acc ++ [x]) (fun y hy => hok y (List.mem_cons_of_mem _ hy)) (by rw [hz, flat_cons]; simp)
    rw [List.length_append] at h
    rw [h]
    simp

theorem read_laid (l rest : List Int) (hl : l.length ≤ 200) (hok : ∀ x ∈ l, okN x) : readNums (enc l.length ++ flat l ++ rest) = if rest = [] then some l else none := by
  have hp : rdP (enc l.length ++ flat l ++ rest) 0 = some (l.length, (enc l.length).length) := by
    unfold rdP
    rw [List.drop_zero, List.append_assoc]
    exact enc_rd (by omega) _
  unfold readNums
  rw [readL_some _ hp (by omega), fin_flat _ rest l (enc l.length) [] hok rfl]
  simp

theorem fin_back (zs : List Int) (hb : Bytes zs) : ∀ (c p : Nat) (acc l : List Int), p ≤ zs.length → fin (rdI zs) zs.length acc c p = some l → ∃ tl, l = acc ++ tl ∧ tl.length = c ∧ (∀ x ∈ tl, okN x) ∧ zs.drop p = flat tl := by
  intro c
  induction c with
  | zero =>
    intro p acc l hp h
    rw [fin_zero] at h
    by_cases hpn : p = zs.length
    · rw [if_pos hpn] at h
      exact ⟨[], by simpa using (Option.some.inj h).symm, rfl, (fun x hx => absurd hx List.not_mem_nil), by rw [hpn, List.drop_length]; rfl⟩
    · rw [if_neg hpn] at h; cases h
  | succ c ih =>
    intro p acc l hp h
    cases hx : rdP zs p with
    | none => rw [fin_none _ _ _ _ _ (rdI_none hx)] at h; cases h
    | some y =>
      obtain ⟨m, j⟩ := y
      obtain ⟨hj0, hjn, hm⟩ := rdP_some hx
      rw [fin_some _ _ _ _ _ (rdI_some hx)] at h
      obtain ⟨tl, h1, h2, h3, h4⟩ := ih (p + j) _ _ hjn h
      have ht := (rd_enc (bytes_drop' hb p) hx).1
      refine ⟨(m : Int) :: tl, by rw [h1]; simp, by rw [List.length_cons, h2], ?_, ?_⟩
      · intro x hx'
        rcases List.mem_cons.1 hx' with rfl | hx'
        · exact ⟨by omega, by omega⟩
        · exact h3 x hx'
      · rw [flat_cons, Int.toNat_natCast, ← ht, ← h4, ← List.drop_drop, List.take_append_drop]

theorem read_back {zs l : List Int} (hb : Bytes zs) (h : readNums zs = some l) : numsB l = zs ∧ l.length ≤ 200 ∧ (∀ x ∈ l, okN x) ∧ zs = enc l.length ++ flat l := by
  cases hp : rdP zs 0 with
  | none => unfold readNums at h; rw [readL_none _ hp] at h; cases h
  | some y =>
    obtain ⟨c, k⟩ := y
    obtain ⟨hk0, hkn, _⟩ := rdP_some hp
    by_cases hc : 200 < c
    · unfold readNums at h; rw [readL_long _ hp hc] at h; cases h
    · unfold readNums at h
      rw [readL_some _ hp hc] at h
      obtain ⟨tl, h1, h2, h3, h4⟩ := fin_back zs hb c k [] l (by omega) h
      rw [List.nil_append] at h1
      subst h1
      have ht := (rd_enc (bytes_drop' hb 0) hp).1
      rw [List.drop_zero] at ht
      have hz : zs = enc l.length ++ flat l := by rw [h2, ← ht, ← h4, List.take_append_drop]
      refine ⟨?_, by omega, h3, hz⟩
      unfold numsB
      rw [if_pos ⟨by omega, h3⟩, ← hz]

theorem read_cut {zs l : List Int} {k : Nat} (hb : Bytes zs) (h : readNums zs = some l) (hk : k < zs.length) : readNums (zs.take k) = none := by
  cases hr : readNums (zs.take k) with
  | none => rfl
  | some l' =>
    obtain ⟨_, h1, h2, h3⟩ := read_back (bytes_take hb k) hr
    have e : zs = enc l'.length ++ flat l' ++ zs.drop k := by rw [← h3, List.take_append_drop]
    have hne : zs.drop k ≠ [] := by
      intro h0
      have := congrArg List.length h0
      rw [List.length_drop] at this
      simp at this
      omega
    rw [e, read_laid l' _ h1 h2, if_neg hne] at h
    cases h

end Go.Proofs.YtfoncmeplofedaqDoor
