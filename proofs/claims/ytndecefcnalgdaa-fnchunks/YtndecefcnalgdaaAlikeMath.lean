/- ON CUTTING ALIKE: what the cuts of a text have in common with those of a text with the same end, and with one that goes on behind. It speaks of no program. -/
import Derived.Test.YtndecefcnalgdaaCuts
import Derived.Test.YtndecefcnalgdaaShared
namespace Go.Proofs.Ytndecefcnalgdaa
open Go.RowKit

theorem byts_append (a b : ByteArray) : byts (a ++ b) = byts a ++ byts b := by
  unfold byts
  rw [ByteArray.data_append, Array.toList_append, List.map_append]
theorem cutsI_has (s : ByteArray) (W : Nat) (P : Int) (L M i : Nat) : (cutsI s W P L M).contains (i : Int) = true ↔ i ∈ cutsN s W P L M := by
  rw [List.contains_iff_mem]
  unfold cutsI
  rw [List.mem_map]
  exact ⟨fun ⟨c, hc, e⟩ => (show c = i by omega) ▸ hc, fun h => ⟨i, h, rfl⟩⟩
theorem cutsI_ok (s : ByteArray) {W : Nat} {P : Int} {L M : Nat} (hr : okRule W P L M) (hs : s.size ≤ 20000) : okNums (cutsI s W P L M) = true := by
  have hO : Okn (nextL W P L M) := okn_next (by omega) hr.2.2.2.1
  have hl := byts_len s
  have hlen := cutsI_len s W P L M
  have hget := cutsI_get s W P L M
  have hc := cuts_get hO (byts s) 0
  have hn := fun a h => @nx_drop _ hO (byts s) a h
  unfold okNums risesB
  rw [Bool.and_eq_true, decide_eq_true_eq, decide_eq_true_eq]
  constructor
  · intro i hi
    rw [hlen] at hi
    rw [hget i hi]
    have h1 := hc i hi
    have h2 := hn _ h1.1
    unfold cutsN
    omega
  · intro i hi h0
    rw [hlen] at hi
    rw [hget i hi, hget (i - 1) (by omega)]
    obtain ⟨j, rfl⟩ : ∃ j, i = j + 1 := ⟨i - 1, by omega⟩
    have h1 := hc (j + 1) hi
    have h2 := hn _ h1.1
    rw [show (0 :: cutsAt (nextL W P L M) (byts s) 0).getD (j + 1) 0 = (cutsAt (nextL W P L M) (byts s) 0).getD j 0 by simp] at h1 h2
    unfold cutsN
    rw [Nat.add_sub_cancel]
    omega
/-- once cut at one place, cut alike from there -/
theorem alike_at (s h : ByteArray) {W : Nat} {P : Int} {L M : Nat} (hr : okRule W P L M) (c i : Nat) (hci : c < i) (h1 : (cutsI s W P L M).contains (c : Int) = true) (h2 : (cutsI (h ++ s) W P L M).contains ((c + h.size : Nat) : Int) = true) :
    (cutsI s W P L M).contains (i : Int) = (cutsI (h ++ s) W P L M).contains ((i + h.size : Nat) : Int) := by
  have hO : Okn (nextL W P L M) := okn_next (by omega) hr.2.2.2.1
  rw [cutsI_has] at h1 h2
  rw [Bool.eq_iff_iff, cutsI_has, cutsI_has]
  unfold cutsN at *
  rw [byts_append, ← byts_len h, Nat.add_comm] at *
  exact cuts_alike hO (byts h) (byts s) c i h1 h2 hci
/-- what comes behind changes no cut but the last -/
theorem behind_at (s h : ByteArray) {W : Nat} {P : Int} {L M : Nat} (hr : okRule W P L M) (i : Nat) (hi : i + 1 < (cutsI s W P L M).length) :
    i < (cutsI (s ++ h) W P L M).length ∧ (cutsI (s ++ h) W P L M).getD i 0 = (cutsI s W P L M).getD i 0 := by
  have hO : Okn (nextL W P L M) := okn_next (by omega) hr.2.2.2.1
  rw [cutsI_len] at hi
  have h1 := cuts_behind hO (byts s) (byts h) (fun t ht => nextL_append (byts h) hr.2.2.1.1 ht) 0 i hi
  rw [← byts_append] at h1
  rw [cutsI_len]
  refine ⟨h1.1, ?_⟩
  rw [cutsI_get _ _ _ _ _ _ h1.1, cutsI_get _ _ _ _ _ _ (by omega)]
  unfold cutsN
  rw [h1.2]
theorem cuts_last_mem {nx : List Int → Nat} (h : Okn nx) (bs : List Int) : ∀ a, a < bs.length → bs.length ∈ cutsAt nx bs a := by
  refine cut_induct h bs (fun a ha hl => absurd hl ha) (fun a ha ih _ => ?_)
  have hn := nx_drop h ha
  rw [cutsAt_step h ha, List.mem_cons]
  by_cases e : a + nx (bs.drop a) < bs.length
  · exact .inr (ih e)
  · exact .inl (by omega)
theorem shared_cuts (s h : ByteArray) {W : Nat} {P : Int} {L M : Nat} (hr : okRule W P L M) (hs : s.size ≤ 1000) (hh : h.size ≤ 1000) :
    0 ≤ sharedT (cutsI s W P L M) (cutsI (h ++ s) W P L M) (h.size : Int) ∧ (0 < s.size → 1 ≤ sharedT (cutsI s W P L M) (cutsI (h ++ s) W P L M) (h.size : Int)) := by
  have hO : Okn (nextL W P L M) := okn_next (by omega) hr.2.2.2.1
  have h1 := cutsI_ok s hr (by omega)
  have h2 := cutsI_ok (h ++ s) hr (by rw [ByteArray.size_append]; omega)
  have h3 : decide (-1099511627776 ≤ (h.size : Int) ∧ (h.size : Int) ≤ 1099511627776) = true := decide_eq_true (by omega)
  rw [sharedT_ok _ _ _ (by rw [h1, h2, h3]; rfl)]
  refine ⟨by omega, fun hp => ?_⟩
  have hm1 : s.size ∈ cutsN s W P L M := by
    have := cuts_last_mem hO (byts s) 0 (by rw [byts_len]; exact hp)
    rwa [byts_len] at this
  have hm2 : s.size + h.size ∈ cutsN (h ++ s) W P L M := by
    have := cuts_last_mem hO (byts (h ++ s)) 0 (by rw [byts_len, ByteArray.size_append]; omega)
    rw [byts_len, ByteArray.size_append, Nat.add_comm] at this
    exact this
  have hin : (s.size : Int) ∈ (cutsI s W P L M).filter fun x => (cutsI (h ++ s) W P L M).contains (x + (h.size : Int)) := by
    rw [List.mem_filter]
    refine ⟨?_, ?_⟩
    · have := (cutsI_has s W P L M s.size).2 hm1
      rwa [List.contains_iff_mem] at this
    · have := (cutsI_has (h ++ s) W P L M (s.size + h.size)).2 hm2
      rwa [Int.natCast_add] at this
  have : 0 < cntN (cutsI s W P L M) (cutsI (h ++ s) W P L M) (h.size : Int) := List.length_pos_of_mem hin
  omega

end Go.Proofs.Ytndecefcnalgdaa
