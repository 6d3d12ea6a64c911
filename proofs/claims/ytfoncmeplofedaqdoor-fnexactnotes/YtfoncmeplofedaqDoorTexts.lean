/- CONTRACTS: spec.Texts, impl.Texts: the text of a list of texts. -/
import Derived.Test.YtfoncmeplofedaqDoorStrs
import Derived.Test.YtfoncmeplofedaqDoorSteps
import Derived.Test.YtfoncmeplofedaqDoorNumbers
import Derived.Lib.AppendStr
import Derived.Deep.RegionLaw
namespace Go.Proofs.YtfoncmeplofedaqDoor
open Go.RowKit

theorem strCells_byts (s : ByteArray) : Lib.strCells s = cellsByteS (byts s) := by
  simp [Lib.strCells, byts, Function.comp_def]

def flatT (xs : List ByteArray) : List Int := xs.flatMap fun s => enc s.size ++ byts s
/-- what Texts tells -/
def textsB (xs : List ByteArray) : List Int := if xs.length ≤ 200 ∧ ∀ s ∈ xs, s.size ≤ 2000 then enc xs.length ++ flatT xs else []
theorem flatT_snoc (xs : List ByteArray) (s : ByteArray) : flatT (xs ++ [s]) = flatT xs ++ (enc s.size ++ byts s) := by simp [flatT]
theorem flatT_len (xs : List ByteArray) (h : ∀ s ∈ xs, s.size ≤ 2000) : (flatT xs).length ≤ 2006 * xs.length := by
  induction xs with
  | nil => simp [flatT]
  | cons x r ih =>
    have h1 := h x List.mem_cons_self
    have h2 := enc_len6 x.size (by omega)
    have h3 := ih fun y hy => h y (List.mem_cons_of_mem _ hy)
    have e : flatT (x :: r) = (enc x.size ++ byts x) ++ flatT r := by simp [flatT]
    rw [e, List.length_append, List.length_append, byts_len, List.length_cons]; omega
theorem flatT_bytes (xs : List ByteArray) : Bytes (flatT xs) := fun x hx => by
  obtain ⟨y, _, hy⟩ := List.mem_flatMap.1 hx
  rcases List.mem_append.1 hy with h | h
  · exact enc_bytes _ x h
  · exact byts_bytes _ x h
theorem textsB_bad {xs : List ByteArray} {k : Nat} (hk : k < xs.length) (h : ¬ (xs.getD k ByteArray.empty).size ≤ 2000) : textsB xs = [] := by
  unfold textsB
  rw [if_neg]
  intro hh
  have e : xs.getD k ByteArray.empty = xs[k] := by simp [List.getD, hk]
  rw [e] at h
  exact h (hh.2 _ (List.getElem_mem hk))
theorem textsB_long {xs : List ByteArray} (h : 200 < xs.length) : textsB xs = [] := by
  unfold textsB; rw [if_neg (by omega)]
theorem textsB_good {xs : List ByteArray} (hl : xs.length ≤ 200) (h : ∀ s ∈ xs.take xs.length, s.size ≤ 2000) : textsB xs = enc xs.length ++ flatT xs := by
  unfold textsB
  rw [List.take_of_length_le (Nat.le_refl _)] at h
  rw [if_pos ⟨hl, h⟩]
theorem okT_snoc {xs : List ByteArray} {k : Nat} (hk : k < xs.length) (h : ∀ s ∈ xs.take k, s.size ≤ 2000) (hx : (xs.getD k ByteArray.empty).size ≤ 2000) : ∀ s ∈ xs.take (k + 1), s.size ≤ 2000 := by
  intro x hm
  rw [take_snoc xs ByteArray.empty k hk] at hm
  rcases List.mem_append.1 hm with h1 | h1
  · exact h x h1
  · rw [List.mem_singleton.1 h1]; exact hx

set_option maxHeartbeats 4000000 in
set_option maxRecDepth 100000 in
theorem specTexts_any (va : Value) (xs : List ByteArray) (w : World) (ha : Rd w va (cellsS xs)) (hl : xs.length ≤ 1048576) :
    Calls Tryd.prog 27 #[va] w fun e w' => e = .returned (.string (asB (textsB xs))) ∧ Below w.heap.size w w' := by
  obtain ⟨i0, hi, hz0, hz1, hz2⟩ := info_parts Tryd.infoB
  have hla : (cellsS xs).length = xs.length := by simp
  obtain ⟨ao, cap, rfl, hcap, hx⟩ := ha
  rw [hla] at hcap hx ⊢
  by_cases hbig : 200 < (xs.length : Int)
  · rw [textsB_long (by omega)]
    clear hx
    go_enter Tryd.func27, Tryd.ntmps27
    go_wp2
    go_ret
    exact ⟨rfl, Below.refl _ _⟩
  · have HX : Hid (∀ j, j < xs.length → ∃ b off, ao = some ⟨b, off, none⟩ ∧ b < w.heap.size ∧ w.cell? ⟨b, off + j, none⟩ = some (.string (xs.getD j ByteArray.empty))) := fun j hj => by
      obtain ⟨b, off, h1, h2, h3⟩ := hx (by intro h; rw [h] at hla; simp at hla; omega)
      exact ⟨b, off, h1, h2, (h3 j hj).trans (strs_get xs j hj)⟩
    clear hx hla
    obtain ⟨n, hn⟩ : ∃ n, n = xs.length := ⟨_, rfl⟩
    rw [← hn] at hcap HX hl hbig ⊢
    have HN : Hid (n = xs.length) := hn
    clear hn
    go_enter Tryd.func27, Tryd.ntmps27
    go_wp2_with fail
    refine (l1Number_any n w (by omega)).mono ?_
    rintro e w1 ⟨v1, rfl, ho1, hb1⟩
    go_wp2
    go_loopw [3, 4] (fun v i wr => ∃ k : Nat, k ≤ n ∧ i = .int .i64 k ∧ wr.ownsRow w.heap.size 5 1 v (enc n ++ flatT (xs.take k)).length (cellsByteS (enc n ++ flatT (xs.take k))) ∧ Below w.heap.size w wr ∧ Hid (∀ s ∈ xs.take k, s.size ≤ 2000)) (fun _ i _ => n - (intOf i).toNat)
    case atStart => exact ⟨0, Nat.zero_le _, rfl, by simpa [flatT] using ho1, hb1, fun x hx => by simp at hx⟩
    case round =>
      obtain ⟨k, hk, rfl, ho, hb, hok⟩ := hrel
      clear ho1 hb1
      have hs := hb.size
      by_cases hkn : k < n
      · have hkx : k < xs.length := by rw [← HN.out]; exact hkn
        obtain ⟨b, off, rfl, hlt, hc⟩ := HX.out k hkn
        have hcw : wr.cell? ⟨b, off + k, none⟩ = some (.string (xs.getD k ByteArray.empty)) := (hb.cell (p := ⟨b, off + k, none⟩) hlt).trans hc
        obtain ⟨x, hxx⟩ : ∃ x, x = xs.getD k ByteArray.empty := ⟨_, rfl⟩
        rw [← hxx] at hcw
        have HXX : Hid (x = xs.getD k ByteArray.empty) := hxx
        have HC0 : Hid (w.cell? ⟨b, off + k, none⟩ = some (.string x)) := by rw [hxx]; exact hc
        clear hc hxx hkx
        by_cases hx1 : (x.size : Int) ≤ 2000
        · have hcl : (enc n ++ flatT (xs.take k)).length ≤ 6 + 2006 * k := by
            have h1 := enc_len6 n (by omega)
            have h2 := flatT_len (xs.take k) hok.out
            rw [List.length_append]
            have h3 : (xs.take k).length ≤ k := List.length_take_le _ _
            omega
          obtain ⟨acc, hacc⟩ : ∃ acc, acc = enc n ++ flatT (xs.take k) := ⟨_, rfl⟩
          rw [← hacc] at ho hcl
          have HACC : Hid (acc = enc n ++ flatT (xs.take k)) := hacc
          clear hacc
          have he6 := enc_len6 x.size (by omega)
          go_wp2
          go_region_law (first
            | (refine step_append_own rfl (.tmp 23) (.tmp 29) 44 rfl w.heap.size 5 i0 (.int .u8 0) 1 1 Tryd.underlying44 hi hz0 hz1 hz2 rfl (by decide) _ acc.length (cellsByteS acc) (by simp [Act.eval]) hoa ⟨g, 0, none⟩ (enc x.size).length c2 (cellsByteS (enc x.size)) (by simp [Act.eval]) (by simp) (ho2.cells hgg) (ints_oneCell .u8 _) (by unfold maxLen; omega) (by omega) (by omega) ?_; intro v3 w3 ho3 hg3; have hb3 : Below w.heap.size w w3 := hb2w.grown hg3 (by have := hb2w.size; omega) (fun k hk => (hoa.lt k hk).1); have hc3 : w3.cell? ⟨b, off + k, none⟩ = some (.string x) := (hb3.cell (p := ⟨b, off + k, none⟩) hlt).trans HC0.out; have hs3 := hb3.size)
            | (refine step_append_string rfl (.tmp 30) (.tmp 34) 44 9 rfl w.heap.size 5 i0 Tryd.underlying44 Tryd.underlying9 hi hz0 hz1 hz2 _ (acc.length + (enc x.size).length) (cellsByteS acc ++ cellsByteS (enc x.size)) (by simp [Act.eval]) ho3 x (by simp [Act.eval]) (by unfold maxLen; omega) (by omega) (by omega) ?_; intro v4 w4 ho4 hg4; have hb4 : Below w.heap.size w w4 := hb3.grown hg4 (by omega) (fun k hk => (ho3.lt k hk).1))
            | (go_simp; go_at_call 29; refine (l1Number_any x.size _ (by omega)).mono ?_; rintro e w2 ⟨v2, rfl, ho2, hb2⟩; obtain ⟨g, c2, rfl, hgg⟩ := owns_head ho2 (enc_pos x.size); have hoa := owns_below ho.drew hb2; have hb2w : Below w.heap.size w w2 := hb.drew.trans (hb2.mono hs); have hs2 := hb2w.size; have hc2 : w2.cell? ⟨b, off + k, none⟩ = some (.string x) := (hb2w.cell (p := ⟨b, off + k, none⟩) hlt).trans HC0.out))
          all_goals
            have hkx : k < xs.length := by rw [← HN.out]; exact hkn
            have e1 : acc ++ (enc x.size ++ byts x) = enc n ++ flatT (xs.take (k + 1)) := by
              rw [take_snoc xs ByteArray.empty k hkx, flatT_snoc, ← HXX.out, HACC.out, List.append_assoc]
            have ho5 : w4.ownsRow w.heap.size 5 1 v4 (enc n ++ flatT (xs.take (k + 1))).length (cellsByteS (enc n ++ flatT (xs.take (k + 1)))) := by
              rw [← e1]
              rw [strCells_byts] at ho4
              have e2 : (acc ++ (enc x.size ++ byts x)).length = acc.length + (enc x.size).length + x.size := by rw [List.length_append, List.length_append, byts_len]; omega
              rw [e2]
              simpa using ho4
            have hok2 : Hid (∀ s ∈ xs.take (k + 1), s.size ≤ 2000) := okT_snoc hkx hok.out (by rw [← HXX.out]; omega)
            clear e1 hkx ho4 hg4 ho3 hg3 hoa ho2 hb2 hb hcw hok hgg hb3 hc3 hc2 hb2w ho
            go_wp2
            go_roundw
            case rel => exact ⟨k + 1, by omega, by go_num, ho5, hb4, hok2⟩
            case measure => simp [intOf]; omega
        · go_wp2
          go_ret
          have hbad : ¬ (xs.getD k ByteArray.empty).size ≤ 2000 := by rw [← HXX.out]; omega
          have hkx : k < xs.length := by rw [← HN.out]; exact hkn
          rw [textsB_bad hkx hbad]
          exact ⟨rfl, hb⟩
      · obtain rfl : k = n := by omega
        have hn := HN.out
        have e : enc k ++ flatT (xs.take k) = textsB xs := by
          have h := hok.out
          rw [hn] at h ⊢
          rw [textsB_good (by omega) h, List.take_of_length_le (Nat.le_refl _)]
        rw [e] at ho
        have hstr := str_own ho (by
          rw [← e]
          exact bytes_append (enc_bytes _) (flatT_bytes _))
        clear e hn ho hok
        go_wp2
        go_ret
        exact ⟨rfl, hb⟩

end Go.Proofs.YtfoncmeplofedaqDoor
