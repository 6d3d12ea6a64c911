/- PLAIN MATHEMATICS: texts that are laid are read, and what is read was laid so; no part of it is. It speaks of no program. -/
import Derived.Test.YtfoncmeplofedaqDoorRound
import Derived.Test.YtfoncmeplofedaqDoorTexts
import Derived.Test.YtfoncmeplofedaqDoorTextM
namespace Go.Proofs.YtfoncmeplofedaqDoor
open Go.RowKit

theorem of_byts (s : ByteArray) : asB (byts s) = s := by
  unfold asB byts
  rw [List.map_map]
  have e : ((fun z : Int => UInt8.ofNat z.toNat) ∘ fun b : UInt8 => (b.toNat : Int)) = id := by
    funext b
    simp
  rw [e, List.map_id]
theorem byts_extract (s : ByteArray) (a b : Nat) : byts (s.extract a b) = ((byts s).drop a).take (b - a) := by
  unfold byts
  rw [ByteArray.data_extract, Array.toList_extract, List.extract_eq_take_drop, List.map_take, List.map_drop]
theorem byts_inj {s t : ByteArray} (h : byts s = byts t) : s = t := by
  rw [← of_byts s, ← of_byts t, h]

theorem flatT_cons (x : ByteArray) (l : List ByteArray) : flatT (x :: l) = enc x.size ++ byts x ++ flatT l := by simp [flatT]

theorem fin_flatT (S : ByteArray) (rest : List Int) : ∀ (todo : List ByteArray) (pre : List Int) (acc : List ByteArray), (∀ x ∈ todo, x.size ≤ 2000) → byts S = pre ++ flatT todo ++ rest → fin (rdT S) (byts S).length acc todo.length pre.length = if rest = [] then some (acc ++ todo) else none := by
  intro todo
  induction todo with
  | nil =>
    intro pre acc _ hz
    rw [List.length_nil, fin_zero, List.append_nil]
    have hl : (byts S).length = pre.length + rest.length := by rw [hz]; simp [flatT]
    by_cases hr : rest = []
    · rw [if_pos hr, if_pos (by rw [hl, hr]; simp)]
    · have hpos : 0 < rest.length := List.length_pos_iff.2 hr
      rw [if_neg hr, if_neg (by omega)]
  | cons x r ih =>
    intro pre acc hok hz
    have hx := hok x List.mem_cons_self
    have hd : (byts S).drop pre.length = enc x.size ++ (byts x ++ (flatT r ++ rest)) := by
      rw [hz, flatT_cons]
      simp
    have hp : rdP (byts S) pre.length = some (x.size, (enc x.size).length) := by unfold rdP; rw [hd]; exact enc_rd (by omega) _
    have hsz : S.size = pre.length + (enc x.size).length + x.size + (flatT r ++ rest).length := by
      have h := congrArg List.length hd
      rw [List.length_drop, byts_len, List.length_append, List.length_append, byts_len] at h
      have h2 : pre.length ≤ S.size := by rw [← byts_len, hz, List.append_assoc, List.length_append]; omega
      omega
    have hex : S.extract (pre.length + (enc x.size).length) (pre.length + (enc x.size).length + x.size) = x := by
      apply byts_inj
      rw [byts_extract, Nat.add_sub_cancel_left, ← List.drop_drop, hd, List.drop_left, ← byts_len x, List.take_left]
    have hrd := rdT_some hp (by omega)
    rw [hex] at hrd
    rw [List.length_cons, fin_some _ _ _ _ _ hrd]
    have h := ih (pre ++ (enc x.size ++ byts x)) (acc ++ [x]) (fun y hy => hok y (List.mem_cons_of_mem _ hy)) (by rw [hz, flatT_cons]; simp)
    have e : (pre ++ (enc x.size ++ byts x)).length = pre.length + ((enc x.size).length + x.size) := by rw [List.length_append, List.length_append, byts_len]
    rw [e] at h
    rw [h]
    simp

theorem read_laidT (l : List ByteArray) (rest : List Int) (S : ByteArray) (hS : byts S = enc l.length ++ flatT l ++ rest) (hl : l.length ≤ 200) (hok : ∀ x ∈ l, x.size ≤ 2000) : readTexts S = if rest = [] then some l else none := by
  have hp : rdP (byts S) 0 = some (l.length, (enc l.length).length) := by
    unfold rdP
    rw [List.drop_zero, hS, List.append_assoc]
    exact enc_rd (by omega) _
  unfold readTexts
  rw [readL_some _ hp (by omega), fin_flatT S rest l (enc l.length) [] hok hS]
  simp

theorem fin_backT (S : ByteArray) : ∀ (c p : Nat) (acc l : List ByteArray), p ≤ S.size → fin (rdT S) (byts S).length acc c p = some l → ∃ tl, l = acc ++ tl ∧ tl.length = c ∧ (∀ x ∈ tl, x.size ≤ 2000) ∧ (byts S).drop p = flatT tl := by
  intro c
  induction c with
  | zero =>
    intro p acc l hp h
    rw [fin_zero] at h
    by_cases hpn : p = (byts S).length
    · rw [if_pos hpn] at h
      exact ⟨[], by simpa using (Option.some.inj h).symm, rfl, (fun x hx => absurd hx List.not_mem_nil), by rw [hpn, List.drop_length]; rfl⟩
    · rw [if_neg hpn] at h; cases h
  | succ c ih =>
    intro p acc l hp h
    cases hx : rdP (byts S) p with
    | none => rw [fin_none _ _ _ _ _ (rdT_none hx)] at h; cases h
    | some y =>
      obtain ⟨m, j⟩ := y
      obtain ⟨hj0, hjn, hm⟩ := rdP_some hx
      by_cases hbad : 2000 < m ∨ S.size < p + j + m
      · rw [fin_none _ _ _ _ _ (rdT_bad hx hbad)] at h; cases h
      · rw [fin_some _ _ _ _ _ (rdT_some hx hbad)] at h
        obtain ⟨tl, h1, h2, h3, h4⟩ := ih (p + (j + m)) _ _ (by omega) h
        have ht := (rd_enc (bytes_drop' (byts_bytes S) p) hx).1
        have hxs : (S.extract (p + j) (p + j + m)).size = m := by rw [ByteArray.size_extract]; omega
        refine ⟨S.extract (p + j) (p + j + m) :: tl, by rw [h1]; simp, by rw [List.length_cons, h2], ?_, ?_⟩
        · intro x hx'
          rcases List.mem_cons.1 hx' with rfl | hx'
          · omega
          · exact h3 x hx'
        · rw [flatT_cons, hxs, byts_extract, Nat.add_sub_cancel_left, ← ht, ← h4, List.append_assoc]
          have e1 : (byts S).drop (p + (j + m)) = ((byts S).drop (p + j)).drop m := by rw [List.drop_drop]; congr 1; omega
          rw [e1, List.take_append_drop, ← List.drop_drop, List.take_append_drop]

theorem read_backT {S : ByteArray} {l : List ByteArray} (h : readTexts S = some l) : textsB l = byts S ∧ l.length ≤ 200 ∧ (∀ x ∈ l, x.size ≤ 2000) ∧ byts S = enc l.length ++ flatT l := by
  have hb := byts_bytes S
  cases hp : rdP (byts S) 0 with
  | none => unfold readTexts at h; rw [readL_none _ hp] at h; cases h
  | some y =>
    obtain ⟨c, k⟩ := y
    obtain ⟨hk0, hkn, _⟩ := rdP_some hp
    rw [byts_len] at hkn
    by_cases hc : 200 < c
    · unfold readTexts at h; rw [readL_long _ hp hc] at h; cases h
    · unfold readTexts at h
      rw [readL_some _ hp hc] at h
      obtain ⟨tl, h1, h2, h3, h4⟩ := fin_backT S c k [] l (by omega) h
      rw [List.nil_append] at h1
      subst h1
      have ht := (rd_enc (bytes_drop' hb 0) hp).1
      rw [List.drop_zero] at ht
      have hz : byts S = enc l.length ++ flatT l := by rw [h2, ← ht, ← h4, List.take_append_drop]
      refine ⟨?_, by omega, h3, hz⟩
      unfold textsB
      rw [if_pos ⟨by omega, h3⟩, ← hz]

theorem read_cutT {S : ByteArray} {l : List ByteArray} {k : Nat} (h : readTexts S = some l) (hk : k < S.size) : readTexts (S.extract 0 k) = none := by
  cases hr : readTexts (S.extract 0 k) with
  | none => rfl
  | some l' =>
    obtain ⟨_, h1, h2, h3⟩ := read_backT hr
    rw [byts_extract, Nat.sub_zero, List.drop_zero] at h3
    have e : byts S = enc l'.length ++ flatT l' ++ (byts S).drop k := by rw [← h3, List.take_append_drop]
    have hne : (byts S).drop k ≠ [] := by
      intro h0
      have := congrArg List.length h0
      rw [List.length_drop, byts_len] at this
      simp at this
      omega
    rw [read_laidT l' _ S e h1 h2, if_neg hne] at h
    cases h

theorem textsB_len (l : List ByteArray) : (textsB l).length ≤ 402000 := by
  unfold textsB
  split
  · next h =>
    have h1 := enc_len6 l.length (by omega)
    have h2 := flatT_len l h.2
    rw [List.length_append]; omega
  · simp

theorem texts_len (S : ByteArray) : ((readTexts S).getD []).length ≤ 200 := by
  cases h : readTexts S with
  | none => simp
  | some l => simpa using (read_backT h).2.1

theorem laid_ofT {sl : ByteArray} {l : List ByteArray} (h : sl = asB (textsB l)) (he : sl.toList.isEmpty = false) : l.length ≤ 200 ∧ readTexts sl = some l ∧ 0 < sl.size := by
  have hpos : 0 < sl.size := by
    by_cases h0 : 0 < sl.size
    · exact h0
    · have e : sl = ⟨#[]⟩ := by
        apply ByteArray.ext
        exact Array.eq_empty_of_size_eq_zero (by show sl.size = 0; omega)
      rw [e] at he
      exact absurd he (by simp [ByteArray.toList_eq])
  have hne : textsB l ≠ [] := by
    intro e
    rw [h, e] at hpos
    exact absurd hpos (by decide)
  have hc : l.length ≤ 200 ∧ ∀ x ∈ l, x.size ≤ 2000 := by
    by_cases hc : l.length ≤ 200 ∧ ∀ x ∈ l, x.size ≤ 2000
    · exact hc
    · exact absurd (by unfold textsB; rw [if_neg hc]) hne
  have hn : textsB l = enc l.length ++ flatT l := by unfold textsB; rw [if_pos hc]
  have hb : Bytes (textsB l) := by rw [hn]; exact bytes_append (enc_bytes _) (flatT_bytes _)
  refine ⟨hc.1, ?_, hpos⟩
  have hr := read_laidT l [] sl (by rw [h, asB_byts _ hb, hn, List.append_nil]) hc.1 hc.2
  rw [hr, if_pos rfl]

end Go.Proofs.YtfoncmeplofedaqDoor
