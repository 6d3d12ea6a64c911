/- CONTRACTS: spec.l2DrawText, DrawClash, DrawClashes: whatever the code, some texts. -/
import Derived.Test.YtfoncmeplofedabDraw
import Derived.Test.YtfoncmeplofedabDig
import Derived.Test.YtfoncmeplofedabOneT
namespace Go.Proofs.Ytfoncmeplofedab
open Go.RowKit

theorem code_all {bs : List Int} (h : Bytes bs) : ∀ j, 0 ≤ bs.getD j 0 ∧ bs.getD j 0 ≤ 255 := bytes_get h
theorem below_own' {w2 w3 : World} {row : Option Nat} {cb B : Nat} (hg : w2.grownBy w3 row) (hcb : cb < w2.heap.size) (hr : ∀ g, row = some g → B ≤ g) (hB : cb < B) : Below (cb + 1) w2 w3 :=
  ⟨hg.os, hg.tape, hg.output, hg.size, fun k hk => hg.block k (by omega) (fun e => by have := hr k e.symm; omega)⟩
theorem two_text (w : World) (x y : ByteArray) (t : TypeId) : ∀ j u, ([Value.string x, Value.string y] : List Value)[j]? = some u → (w.alloc (.cells #[Value.string x, Value.string y] t)).cell? ((⟨w.heap.size, 0, none⟩ : Addr).add j) = some u := by
  intro j u hj
  match j, hj with
  | 0, hj => simp at hj; subst hj; simp [Addr.add]
  | 1, hj => simp at hj; subst hj; simp [Addr.add]

abbrev twoA : ByteArray := ⟨#[97, 116, 117, 119, 116, 119, 107, 99, 111]⟩
abbrev twoB : ByteArray := ⟨#[113, 121, 98, 117, 111, 103, 119, 108, 102]⟩
abbrev twoC : Array Value := #[.string twoA, .string twoB]
theorem two_get (j : Nat) (h : j < 2) : ∃ s : ByteArray, twoC[j]? = some (.string s) ∧ s.size ≤ 9 := by
  rcases (show j = 0 ∨ j = 1 by omega) with rfl | rfl
  · exact ⟨twoA, rfl, by decide⟩
  · exact ⟨twoB, rfl, by decide⟩

set_option maxRecDepth 100000 in
theorem drawText2_any (cb : Nat) (v : Value) (bs : List Int) (w : World) (hst : St w cb v bs) (hl : bs.length ≤ 4096) (hz : ∀ j, 0 ≤ bs.getD j 0 ∧ bs.getD j 0 ≤ 255) :
    Calls Try.prog 114 #[.pointer (some ⟨cb, 0, none⟩)] w fun e w' => ∃ s : ByteArray, e = .returned (.string s) ∧ s.size ≤ 9 ∧ St w' cb v bs ∧ w.grownBy w' (some cb) := by
  have hcb := st_lt hst
  go_enter Try.func114, Try.ntmps114
  go_wp2_with fail
  refine (once_any cb v bs 6 w hst hl hz (by omega)).mono ?_
  rintro e w2 ⟨b, rfl, hst2, hg2⟩
  have hs2 := hg2.size
  cases b with
  | true =>
    have hst2' := st_below hst2 ((Below.refl (cb + 1) w2).alloc (by omega) (.cells twoC 9))
    go_wp2_with fail
    refine (below_any cb v bs 2 _ hst2' hl hz (by omega)).mono ?_
    rintro e w3 ⟨r, rfl, hr0, hr1, _, hst3, hg3⟩
    have hr2 := hr1 (by omega)
    obtain ⟨r, rfl⟩ := Int.eq_ofNat_of_zero_le hr0
    obtain ⟨s, hzr, hs9⟩ := two_get r (by omega)
    have hcell : w3.cell? ⟨w2.heap.size, r, none⟩ = some (.string s) := by
      rw [World.cell?_of_block (w := w2.alloc (.cells twoC 9)) (hg3.block w2.heap.size (by simp) (by simp; omega)), World.cell?_alloc_at _ _ _ _ rfl]
      exact hzr
    have HG : Hid (w.grownBy w3 (some cb)) := grown_trans hg2 (grown_trans (World.grownBy_alloc w2 _ _) hg3)
    have HST : Hid (St w3 cb v bs) := hst3
    clear hst hst2 hst2' hst3 hg2 hg3 hzr hz
    go_wp2
    go_ret
    exact ⟨_, rfl, hs9, HST.out, HG.out⟩
  | false =>
    go_wp2_with fail
    refine (drawText_any cb v bs 5 w2 hst2 hl hz (by omega) (by omega)).mono ?_
    rintro e w3 ⟨s, rfl, hs5, hst3, hg3⟩
    have HG : Hid (w.grownBy w3 (some cb)) := grown_trans hg2 hg3
    have HST : Hid (St w3 cb v bs) := hst3
    clear hst hst2 hst3 hg2 hg3 hz
    go_wp2
    go_ret
    exact ⟨_, rfl, by omega, HST.out, HG.out⟩


theorem all_snoc' {acc : List ByteArray} {x : ByteArray} {B : Nat} (h : ∀ s ∈ acc, s.size ≤ B) (hx : x.size ≤ B) : ∀ s ∈ acc ++ [x], s.size ≤ B := fun s hs => by
  rcases List.mem_append.1 hs with h1 | h1
  · exact h s h1
  · rw [List.mem_singleton.1 h1]; exact hx


end Go.Proofs.Ytfoncmeplofedab
