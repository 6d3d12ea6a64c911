/- What is decoded was coded so; what is coded by Codes is decoded; no code begins with another one. -/
import Derived.Test.YtiflpnmkclcimabDecodedS
import Derived.Test.YtiflpnmkclcimabCodesS
namespace Go.Proofs.Ytiflpnmkclcimab
open Go.RowKit
set_option linter.unusedVariables false

theorem asB_of (u : ByteArray) : asB (byts u) = u := text_same (asB_byts _ (byts_bytes u))
def natI (is : List Nat) : List Int := is.map fun (i : Nat) => (i : Int)
theorem natI_bytes {is : List Nat} (h : ∀ i ∈ is, i < 256) : Bytes (natI is) := fun x hx => by
  obtain ⟨i, hi, rfl⟩ := List.mem_map.1 hx
  have := h i hi
  show 0 ≤ (i : Int) ∧ (i : Int) ≤ 255
  omega
theorem enc_some {cs : List ByteArray} : ∀ {is : List Nat} {r : List Int}, Huff.encF (codeL cs) is = some r → (∀ i ∈ is, i < cs.length) ∧ r = catL (is.map fun i => cs.getD i ByteArray.empty) := by
  intro is
  induction is with
  | nil =>
    intro r h
    simp [Huff.encF] at h
    exact ⟨fun i hi => absurd hi List.not_mem_nil, by first | (rw [h]; rfl) | (rw [← h]; rfl)⟩
  | cons a t ih =>
    intro r h
    unfold Huff.encF at h
    rw [codeL_len] at h
    by_cases ha : a < cs.length
    · rw [if_pos ha] at h
      cases he : Huff.encF (codeL cs) t with
      | none => rw [he] at h; cases h
      | some r' =>
        rw [he] at h
        obtain ⟨h1, h2⟩ := ih he
        have h3 : r = (codeL cs).getD a [] ++ r' := by
          have : some ((codeL cs).getD a [] ++ r') = some r := h
          exact (Option.some.inj this).symm
        refine ⟨fun i hi => ?_, ?_⟩
        · rcases List.mem_cons.1 hi with rfl | hi
          · exact ha
          · exact h1 i hi
        · rw [h3, codeL_get cs a ha, h2]
          simp [catL]
    · rw [if_neg ha] at h; cases h
theorem enc_of {cs : List ByteArray} : ∀ {is : List Nat}, (∀ i ∈ is, i < cs.length) → Huff.encF (codeL cs) is = some (catL (is.map fun i => cs.getD i ByteArray.empty)) := by
  intro is
  induction is with
  | nil => intro _; rfl
  | cons a t ih =>
    intro h
    have ha := h a (by simp)
    unfold Huff.encF
    rw [codeL_len, if_pos ha, ih fun i hi => h i (by simp [hi]), codeL_get cs a ha]
    simp [catL]
theorem said_of {is : List Nat} (h : ∀ i ∈ is, i < 256) (cs : List ByteArray) : said (asB (natI is)) cs = is.map fun i => cs.getD i ByteArray.empty := by
  unfold said
  rw [asB_byts _ (natI_bytes h)]
  unfold natI
  rw [List.map_map]
  refine List.map_congr_left fun i _ => ?_
  simp
theorem hasAll_of {is : List Nat} (h : ∀ i ∈ is, i < 256) {n : Nat} (hn : ∀ i ∈ is, i < n) : hasAll (asB (natI is)) n := fun k hk => by
  rw [asB_size] at hk
  rw [asB_byts _ (natI_bytes h)]
  unfold natI at hk ⊢
  rw [List.length_map] at hk
  rw [List.getD, List.getElem?_map, List.getElem?_eq_getElem hk]
  exact hn _ (List.getElem_mem hk)
/-- what is decoded was coded so -/
theorem decoded_coded {q u : ByteArray} {cs : List ByteArray} (h : decodedT q cs = some u) : codedT u cs = some q := by
  unfold decodedT at h
  by_cases hc : q.size ≤ 20000 ∧ cs.length ≤ 32 ∧ ∀ i, i < cs.length → (cs.getD i ByteArray.empty).size ≠ 0
  · rw [if_pos hc] at h
    cases hd : Huff.decG (codeL cs) (byts q) with
    | none => rw [hd] at h; cases h
    | some is =>
      rw [hd] at h
      have hu : u = asB (natI is) := (Option.some.inj h).symm
      obtain ⟨h1, h2⟩ := enc_some (Huff.dec_enc (codeL cs) _ _ _ hd)
      have h256 : ∀ i ∈ is, i < 256 := fun i hi => by have := h1 i hi; omega
      subst hu
      unfold codedT
      rw [said_of h256, ← h2, if_pos ⟨hasAll_of h256 h1, by rw [byts_len]; exact hc.1⟩, asB_of]
  · rw [if_neg hc] at h; cases h

theorem codesI_get (l : List Int) {i : Nat} (h : i < l.length) : (codesI l).getD i ByteArray.empty = codeB l i := by
  unfold codesI
  rw [List.getD, List.getElem?_map, List.getElem?_range h]
  rfl
theorem codeB_byts (l : List Int) (i : Nat) : byts (codeB l i) = Huff.bitsF (lenN l i) (Huff.startF (lenN l) l.length i) := asB_byts _ (bits_bytes _ _)
theorem codeB_size (l : List Int) (i : Nat) : (codeB l i).size = lenN l i := by rw [← byts_len, codeB_byts, Huff.bitsF_len]
theorem codesI_len (l : List Int) : (codesI l).length = l.length := by simp [codesI]
structure Kr (l : List Int) : Prop where
  len : 1 ≤ l.length ∧ l.length ≤ 32
  all : ∀ i, i < l.length → 1 ≤ lenN l i ∧ lenN l i ≤ 40 ∧ l.getD i 0 = (lenN l i : Int)
  sum : Huff.kraftF 40 (lenN l) l.length ≤ 2 ^ 40
theorem kr_of {l : List Int} (h : kraftB l = true) : Kr l := by
  unfold kraftB at h
  rw [Bool.and_eq_true, decide_eq_true_eq] at h
  obtain ⟨h1, h2⟩ := allIn_out h.1
  exact ⟨h1, fun i hi => by have := h2 i hi; unfold lenN; omega, h.2⟩
theorem codes_pre {l : List Int} (h : Kr l) {i j : Nat} (hi : i < l.length) (hj : j < l.length) (hne : i ≠ j) : (byts (codeB l j)).take (byts (codeB l i)).length ≠ byts (codeB l i) := by
  rw [codeB_byts, codeB_byts, Huff.bitsF_len]
  rcases Nat.lt_or_ge (lenN l j) (lenN l i) with hlt | hge
  · intro e
    have := congrArg List.length e
    rw [List.length_take, Huff.bitsF_len, Huff.bitsF_len] at this
    omega
  · exact Huff.codes_apart (fun k hk => ⟨(h.all k hk).1, (h.all k hk).2.1⟩) h.sum hi hj hne hge
theorem codes_apart5 {l : List Int} (h : Kr l) {i j : Nat} (hi : i < l.length) (hj : j < l.length) (hne : i ≠ j) : (codeB l j).extract 0 (codeB l i).size ≠ codeB l i := fun e => by
  refine codes_pre h hi hj hne ?_
  rw [byts_len]
  have h2 := congrArg byts e
  rw [byts_extract, List.drop_zero, Nat.sub_zero] at h2
  exact h2
/-- a text of bytes that have a code is coded, and decoded again -/
theorem coded_decoded {l : List Int} (h : Kr l) {s : ByteArray} (hs : s.size ≤ 100) (ha : hasAll s l.length) : ∃ x, codedT s (codesI l) = some x ∧ x.size ≤ 20000 ∧ decodedT x (codesI l) = some s := by
  have hl : ∀ i ∈ (byts s).map Int.toNat, i < (codesI l).length := fun i hi => by
    obtain ⟨z, hz, rfl⟩ := List.mem_map.1 hi
    obtain ⟨k, hk, rfl⟩ := List.getElem_of_mem hz
    have hk2 : k < s.size := by rw [byts_len] at hk; exact hk
    have := ha k hk2
    rw [List.getD, List.getElem?_eq_getElem hk] at this
    rw [codesI_len]
    exact this
  have hsaid : said s (codesI l) = ((byts s).map Int.toNat).map fun i => (codesI l).getD i ByteArray.empty := by
    unfold said
    rw [List.map_map]
    rfl
  have henc := enc_of hl
  rw [← hsaid] at henc
  have hnat : natI ((byts s).map Int.toNat) = byts s := by
    unfold natI
    rw [List.map_map]
    conv => rhs; rw [← List.map_id (byts s)]
    refine List.map_congr_left fun z hz => ?_
    have := byts_bytes s z hz
    show ((z.toNat : Nat) : Int) = z
    omega
  have hsz : ∀ c ∈ said s (codesI l), c.size ≤ 40 := fun c hc => by
    rw [hsaid] at hc
    obtain ⟨i, hi, rfl⟩ := List.mem_map.1 hc
    have hi2 := hl i hi
    rw [codesI_len] at hi2
    rw [codesI_get l hi2, codeB_size]
    exact (h.all i hi2).2.1
  have hcat : ∀ xs : List ByteArray, (∀ c ∈ xs, c.size ≤ 40) → (catL xs).length ≤ 40 * xs.length := fun xs => by
    induction xs with
    | nil => intro _; simp [catL]
    | cons a t ih =>
      intro hx
      have h1 := ih fun c hc => hx c (by simp [hc])
      have h2 := hx a (by simp)
      have e : catL (a :: t) = byts a ++ catL t := by simp [catL]
      rw [e, List.length_append, byts_len, List.length_cons]
      omega
  have hlen := hcat _ hsz
  rw [said_len] at hlen
  refine ⟨asB (catL (said s (codesI l))), ?_, ?_, ?_⟩
  · unfold codedT
    rw [if_pos ⟨by rw [codesI_len]; exact ha, by omega⟩]
  · rw [asB_size]; omega
  · unfold decodedT
    rw [asB_byts _ (catL_bytes _), if_pos ⟨by rw [asB_size]; omega, by rw [codesI_len]; exact h.len.2, fun i hi => by
      rw [codesI_len] at hi
      rw [codesI_get l hi, codeB_size]
      have := (h.all i hi).1
      omega⟩]
    have hd : Huff.decG (codeL (codesI l)) (catL (said s (codesI l))) = some ((byts s).map Int.toNat) := by
      unfold Huff.decG
      refine Huff.enc_dec (codeL (codesI l)) (fun i hi e => ?_) (fun i j hi hj hne => ?_) _ _ _ henc (Nat.le_refl _)
      · rw [codeL_len, codesI_len] at hi
        rw [codeL_get _ i (by rw [codesI_len]; exact hi), codesI_get l hi] at e
        have h1 := congrArg List.length e
        rw [byts_len, codeB_size] at h1
        have := (h.all i hi).1
        simp at h1
        omega
      · rw [codeL_len, codesI_len] at hi hj
        rw [codeL_get _ i (by rw [codesI_len]; exact hi), codeL_get _ j (by rw [codesI_len]; exact hj), codesI_get l hi, codesI_get l hj]
        exact codes_pre h hi hj hne
    rw [hd]
    show some (asB (natI ((byts s).map Int.toNat))) = some s
    rw [hnat, asB_of]
end Go.Proofs.Ytiflpnmkclcimab
