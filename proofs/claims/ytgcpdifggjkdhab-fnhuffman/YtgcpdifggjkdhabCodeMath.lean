/- ON CODES: no one begins with another one, and what is coded is decoded. It speaks of no program. -/
import Derived.Test.YtgcpdifggjkdhabHuffMath
namespace Go.Proofs.Ytgcpdifggjkdhab.Huff

/-! where a code starts: the sum of all that are ahead of it, the least first, of alike ones the first -/
abbrev ahead (L : Nat → Nat) (j i : Nat) : Prop := L j < L i ∨ (L j = L i ∧ j < i)
def startF (L : Nat → Nat) (n i : Nat) : Nat := ((List.range n).map fun j => if ahead L j i then 2 ^ (40 - L j) else 0).sum
theorem ahead_total (L : Nat → Nat) {i j : Nat} (h : i ≠ j) : ahead L i j ∨ ahead L j i := by unfold ahead; omega
theorem ahead_trans {L : Nat → Nat} {i j k : Nat} (h : ahead L i j) (h2 : ahead L j k) : ahead L i k := by unfold ahead at *; omega
theorem ahead_not {L : Nat → Nat} {i j : Nat} (h : ahead L i j) : ¬ ahead L j i := by unfold ahead at *; omega
theorem ahead_irr (L : Nat → Nat) (i : Nat) : ¬ ahead L i i := by unfold ahead; omega
theorem start_step {L : Nat → Nat} {n i j : Nat} (hi : i < n) (h : ahead L i j) : startF L n i + 2 ^ (40 - L i) ≤ startF L n j := by
  unfold startF
  obtain ⟨r, hr⟩ := perm_out (List.mem_range.2 hi)
  rw [sum_perm (hr.map _), sum_perm (hr.map _)]
  simp only [List.map_cons, List.sum_cons, if_pos h, if_neg (ahead_irr L i)]
  have : (r.map fun x => if ahead L x i then 2 ^ (40 - L x) else 0).sum ≤ (r.map fun x => if ahead L x j then 2 ^ (40 - L x) else 0).sum := sum_le fun x _ => by
    by_cases hx : ahead L x i
    · rw [if_pos hx, if_pos (ahead_trans hx h)]
      exact Nat.le_refl _
    · rw [if_neg hx]
      exact Nat.zero_le _
  omega
theorem start_end (L : Nat → Nat) {n i : Nat} (hi : i < n) : startF L n i + 2 ^ (40 - L i) ≤ kraftF 40 L n := by
  unfold startF kraftF
  obtain ⟨r, hr⟩ := perm_out (List.mem_range.2 hi)
  rw [sum_perm (hr.map _), sum_perm (hr.map _)]
  simp only [List.map_cons, List.sum_cons, if_neg (ahead_irr L i)]
  have : (r.map fun x => if ahead L x i then 2 ^ (40 - L x) else 0).sum ≤ (r.map fun x => 2 ^ (40 - L x)).sum := sum_le fun x _ => by
    split
    · exact Nat.le_refl _
    · exact Nat.zero_le _
  omega

/-! the bits of a number, the highest of 40 first -/
def bitsF (len v : Nat) : List Int := (List.range len).map fun k => ((48 + v / 2 ^ (39 - k) % 2 : Nat) : Int)
theorem bitsF_len (len v : Nat) : (bitsF len v).length = len := by simp [bitsF]
theorem bitsF_get {len k : Nat} (v : Nat) (h : k < len) : (bitsF len v).getD k 0 = ((48 + v / 2 ^ (39 - k) % 2 : Nat) : Int) := by
  unfold bitsF
  rw [List.getD, List.getElem?_map, List.getElem?_range h]
  rfl
theorem bits_top {u v : Nat} (hu : u < 2 ^ 40) (hv : v < 2 ^ 40) : ∀ m, m ≤ 40 → (∀ k, k < m → u / 2 ^ (39 - k) % 2 = v / 2 ^ (39 - k) % 2) → u / 2 ^ (40 - m) = v / 2 ^ (40 - m) := by
  intro m
  induction m with
  | zero =>
    intro _ _
    rw [Nat.sub_zero, Nat.div_eq_of_lt hu, Nat.div_eq_of_lt hv]
  | succ m ih =>
    intro hm h
    have h1 := ih (by omega) fun k hk => h k (by omega)
    have h2 := h m (by omega)
    have e : 2 ^ (40 - m) = 2 ^ (39 - m) * 2 := by rw [show 40 - m = (39 - m) + 1 by omega, Nat.pow_succ]
    rw [e, ← Nat.div_div_eq_div_mul, ← Nat.div_div_eq_div_mul] at h1
    rw [show 40 - (m + 1) = 39 - m by omega]
    omega
/-- no code begins with another one -/
theorem codes_apart {L : Nat → Nat} {n i j : Nat} (hL : ∀ k, k < n → 1 ≤ L k ∧ L k ≤ 40) (hk : kraftF 40 L n ≤ 2 ^ 40) (hi : i < n) (hj : j < n) (hne : i ≠ j) (hle : L i ≤ L j) :
    (bitsF (L j) (startF L n j)).take (L i) ≠ bitsF (L i) (startF L n i) := by
  intro h
  have hsi := start_end L hi
  have hsj := start_end L hj
  have hpi := Nat.two_pow_pos (40 - L i)
  have hpj := Nat.two_pow_pos (40 - L j)
  have ht := bits_top (u := startF L n i) (v := startF L n j) (by omega) (by omega) (L i) (hL i hi).2 (fun k hk2 => by
    have h1 := congrArg (fun l => l.getD k 0) h
    have h2 : ((bitsF (L j) (startF L n j)).take (L i)).getD k 0 = (bitsF (L j) (startF L n j)).getD k 0 := by rw [List.getD, List.getD, List.getElem?_take_of_lt hk2]
    rw [h2, bitsF_get _ hk2, bitsF_get _ (by omega)] at h1
    have := Int.ofNat.inj h1
    omega)
  rcases ahead_total L hne with ha | ha
  · have h1 := start_step hi ha
    have h2 := Nat.div_le_div_right (c := 2 ^ (40 - L i)) h1
    rw [Nat.add_div_right _ hpi] at h2
    omega
  · have h1 := start_step hj ha
    have e : L j = L i := by unfold ahead at ha; omega
    rw [e] at h1
    have h2 := Nat.div_le_div_right (c := 2 ^ (40 - L i)) h1
    rw [Nat.add_div_right _ hpi] at h2
    omega

/-! coded and decoded -/
def findC (cs : List (List Int)) (r : List Int) : Option Nat := cs.findIdx? fun c => decide (r.take c.length = c)
def decF : Nat → List (List Int) → List Int → Option (List Nat)
  | _, _, [] => some []
  | 0, _, _ :: _ => none
  | f + 1, cs, x :: r => match findC cs (x :: r) with
    | none => none
    | some i => (decF f cs ((x :: r).drop (cs.getD i []).length)).map (i :: ·)
def encF (cs : List (List Int)) : List Nat → Option (List Int)
  | [] => some []
  | i :: t => if i < cs.length then (encF cs t).map (cs.getD i [] ++ ·) else none
theorem find_some {cs : List (List Int)} {r : List Int} {i : Nat} (h : findC cs r = some i) : i < cs.length ∧ r.take (cs.getD i []).length = cs.getD i [] := by
  unfold findC at h
  obtain ⟨hi, h1, _⟩ := List.findIdx?_eq_some_iff_getElem.1 h
  refine ⟨hi, ?_⟩
  rw [List.getD, List.getElem?_eq_getElem hi]
  simpa using h1
/-- what is decoded was coded so -/
theorem dec_enc (cs : List (List Int)) : ∀ (f : Nat) (r : List Int) (is : List Nat), decF f cs r = some is → encF cs is = some r := by
  intro f
  induction f with
  | zero =>
    intro r is h
    cases r with
    | nil => simp [decF] at h; subst h; rfl
    | cons x r => simp [decF] at h
  | succ f ih =>
    intro r is h
    cases r with
    | nil => simp [decF] at h; subst h; rfl
    | cons x r =>
      unfold decF at h
      split at h
      · cases h
      · rename_i i hf
        obtain ⟨hi, ht⟩ := find_some hf
        obtain ⟨t, h1, rfl⟩ := Option.map_eq_some_iff.1 h
        unfold encF
        rw [if_pos hi, ih _ _ h1]
        show some _ = some _
        rw [← List.take_append_drop (cs.getD i []).length (x :: r), ht, List.drop_append_of_le_length (Nat.le_refl _), List.drop_length, List.nil_append]
/-- what is coded is decoded, where no code begins with another one -/
theorem enc_dec (cs : List (List Int)) (hne : ∀ i, i < cs.length → cs.getD i [] ≠ [])
    (hp : ∀ i j, i < cs.length → j < cs.length → i ≠ j → (cs.getD j []).take (cs.getD i []).length ≠ cs.getD i []) :
    ∀ (is : List Nat) (f : Nat) (r : List Int), encF cs is = some r → r.length ≤ f → decF f cs r = some is := by
  intro is
  induction is with
  | nil =>
    intro f r h _
    simp [encF] at h
    subst h
    unfold decF
    rfl
  | cons i t ih =>
    intro f r h hf
    unfold encF at h
    split at h
    · rename_i hi
      obtain ⟨r2, h1, rfl⟩ := Option.map_eq_some_iff.1 h
      have hn := hne i hi
      obtain ⟨x, c, hc⟩ : ∃ x c, cs.getD i [] = x :: c := by
        cases hcc : cs.getD i [] with
        | nil => exact absurd hcc hn
        | cons x c => exact ⟨x, c, rfl⟩
      have hfi : findC cs (cs.getD i [] ++ r2) = some i := by
        unfold findC
        rw [List.findIdx?_eq_some_iff_getElem]
        have hg : ∀ k (h : k < cs.length), cs[k] = cs.getD k [] := fun k h => by rw [List.getD, List.getElem?_eq_getElem h]; rfl
        refine ⟨hi, ?_, fun j hj => ?_⟩
        · rw [hg i hi]
          simp
        · have hjl : j < cs.length := by omega
          rw [hg j hjl]
          simp only [decide_eq_true_eq]
          intro he
          rcases Nat.le_total (cs.getD j []).length (cs.getD i []).length with hle | hle
          · exact hp j i hjl hi (by omega) (by rwa [List.take_append_of_le_length hle] at he)
          · refine hp i j hi hjl (by omega) ?_
            rw [← he, List.take_take, Nat.min_eq_left hle, List.take_append_of_le_length (Nat.le_refl _), List.take_length]
      have hd : (cs.getD i [] ++ r2).drop (cs.getD i []).length = r2 := by simp
      rw [hc] at hfi hd hf ⊢
      cases f with
      | zero => simp at hf
      | succ f =>
        show decF (f + 1) cs (x :: (c ++ r2)) = _
        unfold decF
        rw [show findC cs (x :: (c ++ r2)) = some i from hfi]
        show (decF f cs (((x :: c) ++ r2).drop (cs.getD i []).length)).map _ = _
        rw [hc, hd, ih f r2 h1 (by simp at hf; omega)]
        rfl
    · cases h

/-- the fuel plays no part where no code is empty -/
theorem decF_fuel (cs : List (List Int)) (hne : ∀ i, i < cs.length → cs.getD i [] ≠ []) : ∀ (f f' : Nat) (r : List Int), r.length ≤ f → r.length ≤ f' → decF f cs r = decF f' cs r := by
  intro f
  induction f with
  | zero =>
    intro f' r h _
    have : r = [] := List.length_eq_zero_iff.1 (by omega)
    subst this
    unfold decF
    rfl
  | succ f ih =>
    intro f' r h h'
    cases r with
    | nil => unfold decF; rfl
    | cons x r =>
      cases f' with
      | zero => simp at h'
      | succ f' =>
        unfold decF
        split
        · rfl
        · rename_i i hf
          have hi := (find_some hf).1
          have hn : 1 ≤ (cs.getD i []).length := by
            have := hne i hi
            cases hc : cs.getD i [] with
            | nil => exact absurd hc this
            | cons _ _ => simp
          rw [ih f' _ (by rw [List.length_drop]; simp only [List.length_cons] at h ⊢; omega) (by rw [List.length_drop]; simp only [List.length_cons] at h' ⊢; omega)]
theorem decF_step (f : Nat) (cs : List (List Int)) (x : Int) (r : List Int) : decF (f + 1) cs (x :: r) = match findC cs (x :: r) with
    | none => none
    | some i => (decF f cs ((x :: r).drop (cs.getD i []).length)).map (i :: ·) := rfl
def decG (cs : List (List Int)) (r : List Int) : Option (List Nat) := decF r.length cs r
theorem decG_nil (cs : List (List Int)) : decG cs [] = some [] := rfl
theorem decG_none {cs : List (List Int)} {r : List Int} (hr : r ≠ []) (h : findC cs r = none) : decG cs r = none := by
  cases r with
  | nil => exact absurd rfl hr
  | cons x r =>
    unfold decG
    show decF (r.length + 1) cs (x :: r) = none
    unfold decF
    rw [h]
theorem decG_some {cs : List (List Int)} (hne : ∀ i, i < cs.length → cs.getD i [] ≠ []) {r : List Int} {i : Nat} (hr : r ≠ []) (h : findC cs r = some i) : decG cs r = (decG cs (r.drop (cs.getD i []).length)).map (i :: ·) := by
  cases r with
  | nil => exact absurd rfl hr
  | cons x r =>
    have hi := (find_some h).1
    have hn : 1 ≤ (cs.getD i []).length := by
      have := hne i hi
      cases hc : cs.getD i [] with
      | nil => exact absurd hc this
      | cons _ _ => simp
    unfold decG
    show decF (r.length + 1) cs (x :: r) = _
    rw [decF_step, h]
    show (decF r.length cs _).map _ = _
    rw [decF_fuel cs hne r.length _ _ (by rw [List.length_drop]; simp only [List.length_cons]; omega) (Nat.le_refl _)]
theorem find_none_of {cs : List (List Int)} {r : List Int} (h : ∀ i, i < cs.length → r.take (cs.getD i []).length ≠ cs.getD i []) : findC cs r = none := by
  unfold findC
  rw [List.findIdx?_eq_none_iff]
  intro c hc
  obtain ⟨i, hi, rfl⟩ := List.getElem_of_mem hc
  have := h i hi
  rw [List.getD, List.getElem?_eq_getElem hi] at this
  simpa using this
theorem find_of {cs : List (List Int)} {r : List Int} {i : Nat} (hi : i < cs.length) (h1 : r.take (cs.getD i []).length = cs.getD i []) (h2 : ∀ j, j < i → r.take (cs.getD j []).length ≠ cs.getD j []) : findC cs r = some i := by
  unfold findC
  rw [List.findIdx?_eq_some_iff_getElem]
  have hg : ∀ k (h : k < cs.length), cs[k] = cs.getD k [] := fun k h => by rw [List.getD, List.getElem?_eq_getElem h]; rfl
  refine ⟨hi, ?_, fun j hj => ?_⟩
  · rw [hg i hi]; simpa using h1
  · rw [hg j (by omega)]; simpa using h2 j hj

/-! code by code: length by length, and of one length one after the other -/
abbrev before2 (L : Nat → Nat) (n i j : Nat) : Prop := L j < n ∨ (L j = n ∧ j < i)
def nextF (L : Nat → Nat) (N n i : Nat) : Nat := ((List.range N).map fun j => if before2 L n i j then 2 ^ (40 - L j) else 0).sum
theorem start_next (L : Nat → Nat) (N i : Nat) : startF L N i = nextF L N (L i) i := rfl
theorem nextF_hit {L : Nat → Nat} {N n i : Nat} (hi : i < N) (h : L i = n) : nextF L N n (i + 1) = nextF L N n i + 2 ^ (40 - n) := by
  unfold nextF
  obtain ⟨r, hr⟩ := perm_out (List.mem_range.2 hi)
  have hnd : (i :: r).Nodup := (hr.nodup_iff).1 List.nodup_range
  rw [sum_perm (hr.map _), sum_perm (hr.map _)]
  have h1 : before2 L n (i + 1) i := Or.inr ⟨h, by omega⟩
  have h2 : ¬ before2 L n i i := by unfold before2; omega
  simp only [List.map_cons, List.sum_cons, if_pos h1, if_neg h2]
  have : (r.map fun j => if before2 L n (i + 1) j then 2 ^ (40 - L j) else 0).sum = (r.map fun j => if before2 L n i j then 2 ^ (40 - L j) else 0).sum := sum_map_congr fun j hj => by
    have hne : j ≠ i := fun e => (List.nodup_cons.1 hnd).1 (e ▸ hj)
    have hiff : before2 L n (i + 1) j ↔ before2 L n i j := by unfold before2; omega
    simp only [hiff]
  rw [this, h]
  omega
theorem before2_miss {L : Nat → Nat} {n i : Nat} (h : ¬ L i = n) (j : Nat) : before2 L n (i + 1) j ↔ before2 L n i j := by
  unfold before2
  by_cases e : j = i
  · subst e; omega
  · omega
theorem nextF_miss {L : Nat → Nat} {N n i : Nat} (h : ¬ L i = n) : nextF L N n (i + 1) = nextF L N n i := by
  unfold nextF
  simp only [before2_miss h]
theorem before2_wrap {L : Nat → Nat} {N n j : Nat} (hj : j < N) : before2 L n N j ↔ before2 L (n + 1) 0 j := by unfold before2; omega
theorem nextF_wrap (L : Nat → Nat) (N n : Nat) : nextF L N n N = nextF L N (n + 1) 0 := by
  unfold nextF
  refine sum_map_congr fun j hj => ?_
  simp only [before2_wrap (List.mem_range.1 hj)]
theorem nextF_zero {L : Nat → Nat} {N : Nat} (h : ∀ j, j < N → 1 ≤ L j) : nextF L N 1 0 = 0 := by
  unfold nextF
  rw [sum_map_congr (g := fun _ => 0) fun j hj => by
    have := h j (List.mem_range.1 hj)
    rw [if_neg (by unfold before2; omega)], sum_const, Nat.mul_zero]
theorem nextF_le (L : Nat → Nat) (N n i : Nat) : nextF L N n i ≤ kraftF 40 L N := by
  unfold nextF kraftF
  refine sum_le fun j _ => ?_
  split
  · exact Nat.le_refl _
  · exact Nat.zero_le _

end Go.Proofs.Ytgcpdifggjkdhab.Huff
