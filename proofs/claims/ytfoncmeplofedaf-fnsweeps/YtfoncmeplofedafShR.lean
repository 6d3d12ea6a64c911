/- SHELVES OVER LISTS: a shelf stays right, whatever is done to it; what a sweep and a crash take, and what not. -/
import Derived.Test.YtfoncmeplofedafShL
namespace Go.Proofs.Ytfoncmeplofedaf
open Go.RowKit
set_option linter.unusedVariables false
theorem sto_sub {l m : List Bl} (h : m.Sublist l) (hl : storeB l = true) : storeB m = true := by
  obtain ⟨h1, h2, h3⟩ := storeB_iff.1 hl
  exact storeB_iff.2 ⟨Nat.le_trans h.length_le h1, fun p hp => h2 p (h.subset hp), h3.sublist h⟩
theorem sync_blobs (l : List It) : itBs (syncL l) = itBs l := by
  unfold itBs syncL
  rw [List.map_map]
  rfl
theorem sync_right {r : Int} {l : List It} (h : shelfB r l = true) : shelfB r (syncL l) = true := by
  obtain ⟨h1, h2, h3⟩ := shelfB_iff.1 h
  refine shelfB_iff.2 ⟨h1, by rw [sync_blobs]; exact h2, fun p hp => ?_⟩
  obtain ⟨q, hq, rfl⟩ := List.mem_map.1 hp
  obtain ⟨⟨a1, a2⟩, _, _⟩ := h3 q hq
  exact ⟨⟨a1, a2⟩, ⟨a1, Int.le_refl _⟩, fun _ => rfl⟩
theorem crash_blobs (l : List It) : itBs (crashL l) = itBs (l.filter fun p => !lostP p) := by
  unfold itBs crashL
  rw [List.map_map]
  rfl
theorem crash_right {r : Int} {l : List It} (h : shelfB r l = true) : shelfB r (crashL l) = true := by
  obtain ⟨h1, h2, h3⟩ := shelfB_iff.1 h
  refine shelfB_iff.2 ⟨h1, by rw [crash_blobs]; exact sto_sub (List.filter_sublist.map _) h2, fun p hp => ?_⟩
  obtain ⟨q, hq, rfl⟩ := List.mem_map.1 hp
  obtain ⟨⟨a1, a2⟩, ⟨b1, b2⟩, _⟩ := h3 q (List.mem_filter.1 hq).1
  exact ⟨⟨b1, Int.le_trans b2 a2⟩, ⟨b1, Int.le_refl _⟩, fun _ => rfl⟩
theorem swept_right {r round : Int} {ms : List Int} {l : List It} (h : shelfB r l = true) (hr : 0 ≤ round ∧ round ≤ 100000) : shelfB round (sweptL round ms l) = true := by
  obtain ⟨h1, h2, h3⟩ := shelfB_iff.1 h
  exact shelfB_iff.2 ⟨hr, sto_sub (List.filter_sublist.map _) h2, fun p hp => h3 p (List.mem_filter.1 hp).1⟩
theorem sweptN_right {r round : Int} {ms : List Int} {l : List It} (h : shelfB r l = true) : shelfB (if round < r ∨ 100000 < round then r else round) (if round < r ∨ 100000 < round then l else sweptL round ms l) = true := by
  by_cases hc : round < r ∨ 100000 < round
  · rw [if_pos hc, if_pos hc]; exact h
  · rw [if_neg hc, if_neg hc]
    have := (shelfB_iff.1 h).1
    exact swept_right h ⟨by omega, by omega⟩
/-- the texts' sizes -/
abbrev SmI (l : List It) (B : Nat) : Prop := ∀ p ∈ l, p.2.1.size ≤ B
theorem smI_sync {l : List It} {B : Nat} (h : SmI l B) : SmI (syncL l) B := fun p hp => by obtain ⟨q, hq, rfl⟩ := List.mem_map.1 hp; exact h q hq
theorem smI_crash {l : List It} {B : Nat} (h : SmI l B) : SmI (crashL l) B := fun p hp => by obtain ⟨q, hq, rfl⟩ := List.mem_map.1 hp; exact h q (List.mem_filter.1 hq).1
theorem smI_swept {l : List It} {B : Nat} {round : Int} {ms : List Int} (h : SmI l B) : SmI (sweptL round ms l) B := fun p hp => h p (List.mem_filter.1 hp).1
theorem smI_laid {l : List It} {B : Nat} {t : ByteArray} {st : Int} (h : SmI l B) (ht : t.size ≤ B) : SmI (laidN l t st).1 B := fun p hp => by
  unfold laidN at hp
  split at hp
  · unfold insI at hp
    rcases List.mem_append.1 hp with hq | hq
    · exact h p (List.mem_filter.1 hq).1
    · rcases List.mem_cons.1 hq with rfl | hq
      · exact ht
      · exact h p (List.mem_filter.1 hq).1
  · split at hp
    · obtain ⟨q, hq, rfl⟩ := List.mem_map.1 hp
      split
      · exact h q hq
      · exact h q hq
    · exact h p hp
/-- what the drawn shelves are like, m steps ahead -/
def DrP (m : Nat) (r : Int) (l : List It) : Prop := shelfB r l = true ∧ SmI l 9 ∧ l.length + m ≤ 11
theorem drP_start {m : Nat} (h : m ≤ 11) : DrP m 0 [] := ⟨by decide, (fun p hp => by cases hp), by simpa using h⟩
theorem drP_sync {m : Nat} {r : Int} {l : List It} (h : DrP (m + 1) r l) : DrP m r (syncL l) := ⟨sync_right h.1, smI_sync h.2.1, by rw [List.length_map]; have := h.2.2; omega⟩
theorem drP_crash {m : Nat} {r : Int} {l : List It} (h : DrP (m + 1) r l) : DrP m r (crashL l) := ⟨crash_right h.1, smI_crash h.2.1, by have := h.2.2; have := crash_len l; omega⟩
theorem drP_less {m : Nat} {r : Int} {l : List It} (h : DrP (m + 1) r l) : DrP m r l := ⟨h.1, h.2.1, by have := h.2.2; omega⟩
theorem drP_swept {m : Nat} {r round : Int} {ms : List Int} {l : List It} (h : DrP (m + 1) r l) : DrP m (if round < r ∨ 100000 < round then r else round) (if round < r ∨ 100000 < round then l else sweptL round ms l) := by
  refine ⟨sweptN_right h.1, ?_, ?_⟩
  · split
    · exact h.2.1
    · exact smI_swept h.2.1
  · have := h.2.2
    have := swept_len round ms l
    split <;> omega
theorem drP_laid {m : Nat} {r : Int} {l : List It} {t : ByteArray} {st : Int} (h : DrP (m + 1) r l) (ht : t.size ≤ 9) (hs : 0 ≤ st ∧ st ≤ 100000) : DrP m r (laidN l t st).1 := by
  refine ⟨laid_right h.1 hs, smI_laid h.2.1 ht, ?_⟩
  have := h.2.2
  have := laid_len (t := t) (st := st) (shelfB_iff.1 h.1).2.1
  omega
end Go.Proofs.Ytfoncmeplofedaf
