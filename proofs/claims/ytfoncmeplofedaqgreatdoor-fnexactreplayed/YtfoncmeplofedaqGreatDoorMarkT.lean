/- CONTRACT: the laws' markText at any number. -/
import Derived.Test.YtfoncmeplofedaqGreatDoorMarks
import Derived.Deep.RegionWith
import Derived.Deep.RegionHeld
namespace Go.Proofs.YtfoncmeplofedaqGreatDoor
open Go.RowKit
set_option linter.unusedVariables false
set_option maxRecDepth 100000 in
theorem markTextB_any (k0 : Nat) (w : World) (h0 : 0 < k0) (h1 : k0 ≤ 16777216) :
    Calls Tryz.prog 25 #[.int .i64 (k0 : Int)] w fun e w' => e = .returned (.string (mtxt k0)) ∧ Below w.heap.size w w' := by
  have hle : ¬ ((k0 : Int) ≤ 0) := by omega
  go_enter Tryz.func25, Tryz.ntmps25
  go_wp2
  go_loopw [0, 3] (fun q s wr => ∃ (k f : Nat) (o : ByteArray), q = .int .i64 k ∧ k ≤ f ∧ f ≤ k0 ∧ s = .string o ∧ o.size ≤ 16777216 + (k0 - f) ∧ Hid (digF k0 k0 ⟨#[]⟩ = digF f k o) ∧ Below w.heap.size w wr) (fun q _ _ => (intOf q).toNat)
  case atStart => exact ⟨k0, k0, ⟨#[]⟩, rfl, Nat.le_refl _, Nat.le_refl _, rfl, Nat.zero_le _, rfl, Below.refl _ _⟩
  case round =>
    obtain ⟨k, f, o, rfl, hkf, hfk, rfl, ho, hd, hb⟩ := hrel
    have hs := hb.size
    by_cases hk : 0 < (k : Int)
    · have hst := str_one wr (48 + (k : Int) % 10) (by omega)
      obtain ⟨g, rfl⟩ : ∃ g, f = g + 1 := ⟨f - 1, by omega⟩
      have hd2 : Hid (digF k0 k0 ⟨#[]⟩ = digF g (k / 10) (asB [48 + (k : Int) % 10] ++ o)) := by
        have h := hd.out
        rw [digF, if_neg (by omega)] at h
        exact h
      have hsz : (asB [48 + (k : Int) % 10] ++ o).size ≤ 16777216 + (k0 - g) := by
        rw [ByteArray.size_append, asB_size]; simp only [List.length_singleton]; omega
      have ha1 : (asB [48 + (k : Int) % 10]).size = 1 := by rw [asB_size]; rfl
      have hadd : ∀ W : World, (Op.stringOp .add (asB [48 + (k : Int) % 10]) o).run Tryz.prog W = .ok (.string (asB [48 + (k : Int) % 10] ++ o)) W := fun W => run_string_add_sum W _ _ (by omega)
      obtain ⟨t, ht⟩ : ∃ t, t = asB [48 + (k : Int) % 10] := ⟨_, rfl⟩
      rw [← ht] at hst hd2 hsz ha1 hadd
      clear ht hd
      go_wp2
      go_roundw
      case rel => exact ⟨k / 10, g, t ++ o, by go_num, by omega, by omega, rfl, hsz, hd2, hb.alloc hs _⟩
      case measure => simp [intOf]; omega
    · have hz : k = 0 := by omega
      subst hz
      have hm1 : (⟨#[109]⟩ : ByteArray).size = 1 := rfl
      have hd2 : Hid (mtxt k0 = ⟨#[109]⟩ ++ o) := by
        have h := hd.out
        rw [digF_zero] at h
        unfold mtxt
        rw [h]; rfl
      have hadd : ∀ W : World, (Op.stringOp .add ⟨#[109]⟩ o).run Tryz.prog W = .ok (.string (⟨#[109]⟩ ++ o)) W := fun W => run_string_add_sum W _ _ (by omega)
      clear hd hm1
      go_wp2
      go_ret
      exact ⟨by rw [hd2.out]; rfl, hb⟩
end Go.Proofs.YtfoncmeplofedaqGreatDoor
