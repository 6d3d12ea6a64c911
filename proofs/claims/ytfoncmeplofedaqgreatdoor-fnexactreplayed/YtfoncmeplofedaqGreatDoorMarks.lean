/- CONTRACTS: laws.markText, markStringS, heldStringS. -/
import Derived.Test.YtfoncmeplofedaqGreatDoorBuna
import Derived.Deep.RegionWith
namespace Go.Proofs.YtfoncmeplofedaqGreatDoor
open Go.RowKit

/-- the digits of k ahead of o, with fuel -/
def digF : Nat → Nat → ByteArray → ByteArray
  | 0, _, o => o
  | f + 1, k, o => if k = 0 then o else digF f (k / 10) (asB [48 + ((k % 10 : Nat) : Int)] ++ o)
theorem digF_zero (f : Nat) (o : ByteArray) : digF f 0 o = o := by cases f <;> simp [digF]
def mtxt (k : Nat) : ByteArray := ⟨#[109]⟩ ++ digF k k ⟨#[]⟩

theorem digF_size (f : Nat) : ∀ k o, (digF f k o).size ≤ o.size + f := by
  induction f with
  | zero => intro k o; simp [digF]
  | succ f ih =>
    intro k o
    rw [digF]
    split
    · omega
    · have h := ih (k / 10) (asB [48 + ((k % 10 : Nat) : Int)] ++ o)
      rw [ByteArray.size_append, asB_size] at h
      simp only [List.length_singleton] at h
      omega

theorem str_one (W : World) (z : Int) (h : 0 ≤ z ∧ z ≤ 255) : (convert 73 9 (.slice (some ⟨W.heap.size, 0, none⟩) 1 1)).run Tryz.prog (W.alloc (.cells #[.int .u8 z] 5)) = .ok (.string (asB [z])) (W.alloc (.cells #[.int .u8 z] 5)) :=
  str_of (W.alloc (.cells #[.int .u8 z] 5)) W.heap.size 0 1 1 [z] (fun x hx => by rw [List.mem_singleton.1 hx]; exact h) (Nat.le_refl _) (fun j hj => by
    have hj' : j = 0 := by simpa using hj
    subst hj'
    simp)

set_option maxRecDepth 100000 in
theorem markText_any (k0 : Nat) (w : World) (h0 : 0 < k0) (h1 : k0 ≤ 16777216) :
    Calls Tryz.prog 25 #[.int .i64 (k0 : Int)] w fun e w' => e = .returned (.string (mtxt k0)) ∧ Below w.heap.size w w' := by
  have hle : ¬ ((k0 : Int) ≤ 0) := by omega
  go_enter Tryz.func25, Tryz.ntmps25
  go_wp2
  go_loopw [0, 3] (fun q s wr => ∃ (k f : Nat) (o : ByteArray), q = .int .i64 k ∧ k ≤ f ∧ f ≤ k0 ∧ s = .string o ∧ o.size ≤ 16777216 + (k0 - f) ∧ Hid (digF k0 k0 ⟨#[]⟩ = digF f k o) ∧ Below w.heap.size w wr) (fun q _ _ => (intOf q).toNat)
  case atStart => exact ⟨k0, k0, ⟨#[]⟩, rfl, Nat.le_refl _, Nat.le_refl _, rfl, Nat.zero_le _, rfl, Below.refl _ _⟩
  case round =>
    obtain ⟨k, f, o, rfl, hkf, hfk, rfl, ho, hd, hb⟩ := hrel
    have hs := hb.size
    by_cases hk : 0 < (k : Int)
    · have hst := str_one wr (48 + (k : Int) % 10) (by omega)
      obtain ⟨g, rfl⟩ : ∃ g, f = g + 1 := ⟨f - 1, by omega⟩
      have hd2 : Hid (digF k0 k0 ⟨#[]⟩ = digF g (k / 10) (asB [48 + (k : Int) % 10] ++ o)) := by
        have h := hd.out
        rw [digF, if_neg (by omega)] at h
        exact h
      have hsz : (asB [48 + (k : Int) % 10] ++ o).size ≤ 16777216 + (k0 - g) := by
        rw [ByteArray.size_append, asB_size]; simp only [List.length_singleton]; omega
      have ha1 : (asB [48 + (k : Int) % 10]).size = 1 := by rw [asB_size]; rfl
      have hadd : ∀ W : World, (Op.stringOp .add (asB [48 + (k : Int) % 10]) o).run Tryz.prog W = .ok (.string (asB [48 + (k : Int) % 10] ++ o)) W := fun W => run_string_add_sum W _ _ (by omega)
      obtain ⟨t, ht⟩ : ∃ t, t = asB [48 + (k : Int) % 10] := ⟨_, rfl⟩
      rw [← ht] at hst hd2 hsz ha1 hadd
      clear ht hd
      go_wp2
      go_roundw
      case rel => exact ⟨k / 10, g, t ++ o, by go_num, by omega, by omega, rfl, hsz, hd2, hb.alloc hs _⟩
      case measure => simp [intOf]; omega
    · have hz : k = 0 := by omega
      subst hz
      have hm1 : (⟨#[109]⟩ : ByteArray).size = 1 := rfl
      have hd2 : Hid (mtxt k0 = ⟨#[109]⟩ ++ o) := by
        have h := hd.out
        rw [digF_zero] at h
        unfold mtxt
        rw [h]; rfl
      have hadd : ∀ W : World, (Op.stringOp .add ⟨#[109]⟩ o).run Tryz.prog W = .ok (.string (⟨#[109]⟩ ++ o)) W := fun W => run_string_add_sum W _ _ (by omega)
      clear hd hm1
      go_wp2
      go_ret
      exact ⟨by rw [hd2.out]; rfl, hb⟩

/-- what markStringS lays from 1 on -/
def marksS (n : Nat) : List ByteArray := (List.range n).map fun (j : Nat) => mtxt (1 + j)
theorem marksS_len (n : Nat) : (marksS n).length = n := by simp [marksS]
theorem marksS_succ (k : Nat) : marksS (k + 1) = marksS k ++ [mtxt (1 + k)] := by simp [marksS, List.range_succ]
theorem marksS_get (n j : Nat) (h : j < n) : (marksS n).getD j ByteArray.empty = mtxt (1 + j) := by simp [marksS, List.getD, h]
theorem marksS_step (k : Nat) (xs : List ByteArray) (h : k < xs.length) : ((cellsS (marksS k ++ xs.drop k)).set k (.string (mtxt (1 + k)))) = cellsS (marksS (k + 1) ++ xs.drop (k + 1)) := by
  have hd : xs.drop k = xs[k] :: xs.drop (k + 1) := List.drop_eq_getElem_cons h
  rw [marksS_succ, hd]
  have e : (cellsS (marksS k)).length = k := by simp [marksS_len]
  have e2 : cellsS (marksS k ++ xs[k] :: xs.drop (k + 1)) = cellsS (marksS k) ++ (Value.string xs[k] :: cellsS (xs.drop (k + 1))) := by rw [cellsS, List.map_append, List.map_cons]
  rw [e2, List.set_append_right _ _ (by omega), e, Nat.sub_self, List.set_cons_zero]
  simp



end Go.Proofs.YtfoncmeplofedaqGreatDoor
