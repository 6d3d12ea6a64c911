/- CONTRACTS: the program's loosedOnce and Loosed. -/
import Derived.Test.YtgcpdifggjkdhabLoS
import Derived.Test.YtgcpdifggjkdhabOwn
import Derived.Lib.AppendStr
import Derived.Laws.AppendOwnNone
namespace Go.Proofs.Ytgcpdifggjkdhab
open Go.RowKit
set_option linter.unusedVariables false
theorem byts_cut (s : ByteArray) (a b : Nat) : byts (s.extract a b) = ((byts s).drop a).take (b - a) := by
  unfold byts
  rw [ByteArray.data_extract, Array.toList_extract, List.extract_eq_take_drop, List.map_take, List.map_drop]
theorem byts_one {s t : ByteArray} (h : byts s = byts t) : s = t := by
  apply ByteArray.ext
  apply Array.ext'
  exact (List.map_inj_right (fun a b hab => UInt8.toNat.inj (by omega))).1 h
theorem slice_nil {w : World} {b : Nat} {e : TypeId} {v : Value} {xs : List Value} (h : w.ownsRow b e 1 v 0 xs) : v = .slice none 0 0 ∨ ∃ g cap, v = .slice (some ⟨g, 0, none⟩) 0 cap := by
  rcases h.2 with ⟨hv, h0⟩ | ⟨g, cap, cur, hv, _⟩
  · exact Or.inl hv
  · exact Or.inr ⟨g, cap, hv⟩

set_option maxHeartbeats 1000000 in
set_option maxRecDepth 100000 in
theorem ownText_none (w : World) :
    Calls Try.prog 85 #[.slice none 0 0] w fun e w' => e = .returned (.string (asB [])) ∧ Below w.heap.size w w' := by
  have hbk := heap_alloc_new w (.cells #[.pointer none, .slice none 0 0] 82)
  have hB := (Below.refl w.heap.size w).alloc (Nat.le_refl _) (.cells #[.pointer none, .slice none 0 0] 82)
  have hsz := World.size_alloc w (.cells #[.pointer none, .slice none 0 0] 82)
  have HW : Hid (∀ W : World, W.heap[w.heap.size]? = some (.cells #[.pointer none, .slice none 0 0] 82 (0, 0)) → Below w.heap.size w W → Calls Try.prog 105 #[.pointer (some ⟨w.heap.size, 0, none⟩), .slice none 0 0] W fun e w' => e = .returned (.tuple #[.int .i64 0, .nilIface]) ∧ w'.heap[w.heap.size]? = some (.cells #[.pointer (some ⟨w.heap.size, 0, none⟩), .slice none 0 0] 82 (0, 0)) ∧ Below w.heap.size w w') := fun W hbk hbW => by
    obtain ⟨i0, hi, hz0, hz1, hz2⟩ := info_parts Try.infoB
    go_enter Try.func105, Try.ntmps105
    go_wp2_with fail
    refine (copyCheck_fresh w.heap.size _ W hbk).mono ?_
    rintro e w1 ⟨rfl, hw1⟩
    have hb1k : w1.heap[w.heap.size]? = some (.cells #[.pointer (some ⟨w.heap.size, 0, none⟩), .slice none 0 0] 82 (0, 0)) := by rw [hw1]; simp [World.setCell, Array.getElem?_modify, hbk]
    have hb1 : Below w.heap.size w w1 := by rw [hw1]; exact hbW.setCell (p := ⟨w.heap.size, 0, none⟩) (Nat.le_refl _) _
    clear hw1
    have c1 : w1.cell? ⟨w.heap.size, 1, none⟩ = some (.slice none 0 0) := by rw [Lib.cell_of_heap hb1k]; rfl
    have f1 : w1.frozen? ⟨w.heap.size, 1, none⟩ = false := Lib.frozen_of_heap hb1k 1
    have HK := Lib.hid hb1k
    have HB1 := Lib.hid hb1
    clear hb1k hb1 hbk hbW
    go_wp2_with (at_builtin; refine wpList_append_own_none rfl _ _ 22 rfl w.heap.size 5 i0 1 Try.underlying22 hi _ _ _ rfl (World.ownsRow_nil w1 w.heap.size 5 1) rfl ?_)
    go_ret2
    refine ⟨rfl, ?_, HB1.out.setCell (p := ⟨w.heap.size, 1, none⟩) (Nat.le_refl _) _⟩
    have hb2 := HK.out
    simp [World.setCell, Array.getElem?_modify, hb2]
  go_enter Try.func85, Try.ntmps85
  go_wp2_with fail
  refine (HW.out _ hbk hB).mono ?_
  rintro e w1 ⟨rfl, hb1, hB1⟩
  clear HW hbk hB
  go_wp2_with fail
  refine (string_of w.heap.size w.heap.size _ (.slice none 0 0) [] w1 (fun x hx => by cases hx) hb1 (World.ownsRow_nil w1 w.heap.size 5 1) (fun _ => rfl)).mono ?_
  rintro e w2 ⟨rfl, hB3⟩
  have hB4 := hB1.trans hB3
  clear hb1 hB1 hB3
  go_wp2
  go_ret
  exact ⟨rfl, hB4⟩
theorem ownRow_any (B : Nat) (v : Value) (zs : List Int) (w : World) (hz : Bytes zs) (ho : w.ownsRow B 5 1 v zs.length (cellsByteS zs)) (hl : zs.length ≤ 1000000) :
    Calls Try.prog 85 #[v] w fun e w' => e = .returned (.string (asB zs)) ∧ Below w.heap.size w w' := by
  rcases ho.2 with ⟨rfl, h0⟩ | ⟨g, cap, cur, rfl, hbg, hg, _⟩
  · have e : zs = [] := List.eq_nil_of_length_eq_zero h0
    subst e
    exact ownText_none w
  · exact ownText_any ⟨g, 0, none⟩ zs.length cap zs w rfl hz (fun j u hj => ho.cells (g := g) rfl j u hj) (ho.lt g rfl).2 hl

/-- does the text begin so? -/
def pfB (r c : ByteArray) : Bool := decide (c.size ≤ r.size ∧ r.extract 0 c.size = c)
set_option maxRecDepth 100000 in
theorem pf0_any (r c : ByteArray) (w : World) (hr : r.size ≤ 9223372036854775807) (hc : c.size ≤ 9223372036854775807) :
    Calls Try.prog 103 #[.string r, .string c] w fun e w' => e = .returned (.bool (pfB r c)) ∧ w' = w := by
  by_cases hfit : c.size ≤ r.size
  focus
    have hsl1 : ∀ W : World, (Instr.slice 9 (.string r) none (some (.int .i64 (c.size : Int))) none).run Try.prog W = .ok (.string (r.extract 0 c.size)) W := fun W => by
      rw [run_slice_string_h W 9 r Try.underlying9 .i64 _ (by omega) (by omega), Int.toNat_natCast]
    have hfI : (c.size : Int) ≤ (r.size : Int) := by omega
    have e : pfB r c = decide (r.extract 0 c.size = c) := by unfold pfB; simp [hfit]
    rw [e]
    obtain ⟨t, ht⟩ : ∃ t, t = r.extract 0 c.size := ⟨_, rfl⟩
    rw [← ht] at hsl1 ⊢
    clear e ht
    by_cases htc : t = c
    · subst htc
      rw [decide_eq_true rfl]
      go_enter Try.func103, Try.ntmps103
      go_wp2
      go_ret
      exact ⟨rfl, rfl⟩
    · rw [decide_eq_false htc]
      have hnl : ¬ t.toList = c.toList := fun e => htc (same_of e)
      have hnl2 : (t.toList == c.toList) = false := by simp [hnl]
      go_enter Try.func103, Try.ntmps103
      go_wp2
      go_ret
      exact ⟨by first | rfl | (simp [hnl]), rfl⟩
  have e : pfB r c = false := by unfold pfB; rw [decide_eq_false]; exact fun h => hfit h.1
  rw [e]
  have hfI : ¬ (c.size : Int) ≤ (r.size : Int) := by omega
  have hfD : decide ((c.size : Int) ≤ (r.size : Int)) = false := decide_eq_false hfI
  clear e
  go_enter Try.func103, Try.ntmps103
  go_wp2
  go_ret
  exact ⟨rfl, rfl⟩

set_option maxRecDepth 100000 in
theorem pf_any (r c : ByteArray) (w : World) (hr : r.size ≤ 9223372036854775807) (hc : c.size ≤ 9223372036854775807) :
    Calls Try.prog 81 #[.string r, .string c] w fun e w' => e = .returned (.bool (pfB r c)) ∧ w' = w := by
  go_enter Try.func81, Try.ntmps81
  go_wp2_with fail
  refine (pf0_any r c _ hr hc).mono ?_
  rintro e w1 ⟨rfl, rfl⟩
  go_wp2
  go_ret
  exact ⟨rfl, rfl⟩
/-- does it begin with the bytes 1 and 0? -/
def pref10 (r : ByteArray) : Bool := decide (2 ≤ r.size ∧ (byts r).getD 0 0 = 1 ∧ (byts r).getD 1 0 = 0)
theorem pref10_iff {r : ByteArray} (h : 2 ≤ r.size) : r.extract 0 2 = ⟨#[1, 0]⟩ ↔ (byts r).getD 0 0 = 1 ∧ (byts r).getD 1 0 = 0 := by
  have hb : byts (r.extract 0 2) = [(byts r).getD 0 0, (byts r).getD 1 0] := by
    have hl : 2 ≤ (byts r).length := by rw [byts_len]; exact h
    rw [byts_cut, List.drop_zero]
    match byts r, hl with
    | x :: y :: l, _ => rfl
  have hc : byts ⟨#[1, 0]⟩ = [1, 0] := rfl
  constructor
  · intro e
    rw [e, hc] at hb
    simp at hb
    exact ⟨hb.1.symm, hb.2.symm⟩
  · intro e
    apply byts_one
    rw [hb, hc, e.1, e.2]
theorem pref10_eq (r : ByteArray) : pfB r ⟨#[1, 0]⟩ = pref10 r := by
  unfold pfB pref10
  by_cases h : 2 ≤ r.size
  · have := pref10_iff h
    rw [Bool.eq_iff_iff, decide_eq_true_eq, decide_eq_true_eq]
    exact ⟨fun k => ⟨h, this.1 k.2⟩, fun k => ⟨h, this.2 k.2⟩⟩
  · rw [decide_eq_false (fun k => h k.1), decide_eq_false (fun k => h k.1)]
end Go.Proofs.Ytgcpdifggjkdhab
