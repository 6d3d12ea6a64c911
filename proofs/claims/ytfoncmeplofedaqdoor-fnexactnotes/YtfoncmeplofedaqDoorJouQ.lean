/- NOTES AND DISKS OVER LISTS: what is shown is read again, whatever stands behind it. -/
import Derived.Test.YtfoncmeplofedaqDoorJouM
namespace Go.Proofs.YtfoncmeplofedaqDoor
open Go.RowKit
set_option linter.unusedVariables false
theorem noteB_parts {k a : Int} {t : ByteArray} (h : noteB (k, a, t) = true) : (k = 1 ∨ k = 2) ∧ (0 ≤ a ∧ a ≤ 100000) ∧ t.size ≤ 2000 := by
  unfold noteB at h
  rw [Bool.and_eq_true, Bool.and_eq_true] at h
  obtain ⟨⟨h1, h2⟩, h3⟩ := h
  refine ⟨?_, of_decide_eq_true h1, of_decide_eq_true h2⟩
  by_cases hk : k = 2
  · exact Or.inr hk
  · rw [if_neg hk] at h3
    exact Or.inl (of_decide_eq_true h3)
/-- the head's text -/
def headB (k a : Int) : ByteArray := asB (numsB [k, a])
theorem head_is {k a : Int} (hk : 0 ≤ k ∧ k ≤ 1099511627776) (ha : 0 ≤ a ∧ a ≤ 1099511627776) : byts (headB k a) = enc 2 ++ flat [k, a] ∧ (headB k a).size ≤ 2000 ∧ readNums (byts (headB k a)) = some [k, a] := by
  have hok : ∀ x ∈ [k, a], okN x := fun x hx => by
    rcases List.mem_cons.1 hx with rfl | hx
    · exact hk
    · rw [List.mem_singleton] at hx; subst hx; exact ha
  have e : numsB [k, a] = enc 2 ++ flat [k, a] := by unfold numsB; rw [if_pos ⟨by simp, hok⟩]; rfl
  have hb : Bytes (numsB [k, a]) := by
    rw [e]
    intro x hx
    rcases List.mem_append.1 hx with h | h
    · exact enc_bytes 2 x h
    · rw [flat_cons, flat_cons] at h
      rcases List.mem_append.1 h with h | h
      · exact enc_bytes _ x h
      · rcases List.mem_append.1 h with h | h
        · exact enc_bytes _ x h
        · simp [flat] at h
  have e2 : byts (headB k a) = enc 2 ++ flat [k, a] := by unfold headB; rw [asB_byts _ hb, e]
  refine ⟨e2, ?_, ?_⟩
  · rw [← byts_len, e2, List.length_append]
    have h1 := flat_len [k, a] hok
    have h2 := enc_len6 2 (by omega)
    simp only [List.length_cons, List.length_nil] at h1
    omega
  · rw [e2]
    have h9 := read_laid [k, a] [] (by simp) hok
    rw [List.append_nil, if_pos rfl] at h9
    exact h9
theorem body_is {k a : Int} {t : ByteArray} (hk : 0 ≤ k ∧ k ≤ 1099511627776) (ha : 0 ≤ a ∧ a ≤ 1099511627776) (ht : t.size ≤ 2000) : (bodyT (k, a, t)).size ≤ 4018 ∧ readTexts (bodyT (k, a, t)) = some [headB k a, t] := by
  obtain ⟨h1, h2, h3⟩ := head_is hk ha
  have hok : ∀ s ∈ [headB k a, t], s.size ≤ 2000 := fun s hs => by
    rcases List.mem_cons.1 hs with rfl | hs
    · exact h2
    · rw [List.mem_singleton] at hs; subst hs; exact ht
  have e : textsB [headB k a, t] = enc 2 ++ flatT [headB k a, t] := by unfold textsB; rw [if_pos ⟨by simp, hok⟩]; rfl
  have hb : Bytes (textsB [headB k a, t]) := by
    rw [e]
    intro x hx
    rcases List.mem_append.1 hx with h | h
    · exact enc_bytes 2 x h
    · rw [flatT_cons, flatT_cons] at h
      rcases List.mem_append.1 h with h | h
      · rcases List.mem_append.1 h with h | h
        · exact enc_bytes _ x h
        · exact byts_bytes _ x h
      · rcases List.mem_append.1 h with h | h
        · rcases List.mem_append.1 h with h | h
          · exact enc_bytes _ x h
          · exact byts_bytes _ x h
        · simp [flatT] at h
  have e2 : byts (bodyT (k, a, t)) = enc 2 ++ flatT [headB k a, t] := by
    show byts (asB (textsB [headB k a, t])) = _
    rw [asB_byts _ hb, e]
  refine ⟨?_, ?_⟩
  · rw [← byts_len, e2, List.length_append]
    have h4 := flatT_len [headB k a, t] hok
    have h5 := enc_len6 2 (by omega)
    simp only [List.length_cons, List.length_nil] at h4
    omega
  · have h9 := read_laidT [headB k a, t] [] (bodyT (k, a, t)) (by rw [e2, List.append_nil]; rfl) (by simp) hok
    rw [if_pos rfl] at h9
    exact h9
theorem showL_bytes (p : Nt) : Bytes (showL p) := by
  unfold showL
  intro x hx
  rcases List.mem_append.1 hx with h | h
  · rcases List.mem_append.1 h with h | h
    · exact enc_bytes _ x h
    · exact byts_bytes _ x h
  · exact enc_bytes _ x h
theorem showT_is {p : Nt} (h : noteB p = true) : byts (showT p) = showL p ∧ (showT p).size = (showL p).length ∧ 0 < (showL p).length := by
  have e : showT p = asB (showL p) := by unfold showT; rw [if_pos h]
  rw [e, asB_byts _ (showL_bytes p), asB_size]
  refine ⟨rfl, rfl, ?_⟩
  unfold showL
  rw [List.length_append, List.length_append]
  have := enc_pos (bodyT p).size
  omega
/-- what is shown is the first note of a disk that begins with it -/
theorem note_show {p : Nt} (h : noteB p = true) {d : ByteArray} {rest : List Int} (hd : byts d = showL p ++ rest) : noteT d = some (p, (showL p).length) := by
  obtain ⟨k, a, t⟩ := p
  obtain ⟨hk, ha, ht⟩ := noteB_parts h
  obtain ⟨s1, s2, s3⟩ := showT_is h
  have hk9 : 0 ≤ k ∧ k ≤ 1099511627776 := by rcases hk with rfl | rfl <;> exact ⟨by decide, by decide⟩
  obtain ⟨b1, b2⟩ := body_is hk9 (show 0 ≤ a ∧ a ≤ 1099511627776 by omega) ht
  have hh := (head_is hk9 (show 0 ≤ a ∧ a ≤ 1099511627776 by omega)).2.2
  have hsz : d.size = (showL (k, a, t)).length + rest.length := by rw [← byts_len, hd, List.length_append]
  have hfull : showL (k, a, t) = enc (bodyT (k, a, t)).size ++ (byts (bodyT (k, a, t)) ++ enc (digest (bodyT (k, a, t))).toNat) := by unfold showL; rw [List.append_assoc]
  have hrd : rd (byts d) = some ((bodyT (k, a, t)).size, (enc (bodyT (k, a, t)).size).length) := by
    rw [hd, hfull, List.append_assoc]
    exact enc_rd (by omega) _
  have hlen : (showL (k, a, t)).length = (enc (bodyT (k, a, t)).size).length + (bodyT (k, a, t)).size + (enc (digest (bodyT (k, a, t))).toNat).length := by
    rw [hfull, List.length_append, List.length_append, byts_len]; omega
  have hex : d.extract (enc (bodyT (k, a, t)).size).length ((enc (bodyT (k, a, t)).size).length + (bodyT (k, a, t)).size) = bodyT (k, a, t) := by
    apply byts_inj
    rw [byts_extract, hd, hfull, List.append_assoc, List.drop_left, Nat.add_sub_cancel_left, List.append_assoc]
    exact List.take_left' (byts_len _)
  have hhead : headT d (bodyT (k, a, t)).size (enc (bodyT (k, a, t)).size).length = some (k, a, t) := by
    unfold headT
    rw [hex, b2]
    show (match readNums (byts (headB k a)) with | some [a, b] => some (a, b, t) | _ => none) = _
    rw [hh]
  unfold noteT
  rw [hrd]
  show (if d.size - (enc (bodyT (k, a, t)).size).length < (bodyT (k, a, t)).size then none else _) = _
  rw [if_neg (by omega), hhead]
  show (if (showT (k, a, t)).size ≠ 0 ∧ (showT (k, a, t)).size ≤ d.size ∧ d.extract 0 (showT (k, a, t)).size = showT (k, a, t) then some ((k, a, t), (showT (k, a, t)).size) else none) = _
  rw [if_pos, s2]
  refine ⟨by omega, by omega, ?_⟩
  apply byts_inj
  rw [byts_extract, s1, s2, hd, List.drop_zero, Nat.sub_zero]
  exact List.take_left' rfl
end Go.Proofs.YtfoncmeplofedaqDoor
