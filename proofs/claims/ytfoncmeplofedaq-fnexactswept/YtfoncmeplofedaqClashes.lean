/- CONTRACTS: Clashes of both: does any of a list clash with another one? impl's goes by a map, spec's by pairs. -/
import Derived.Test.YtfoncmeplofedaqDig
import Derived.Maps.OwnSet
import Derived.Maps.Views
import Derived.Deep.RegionWith
namespace Go.Proofs.Ytfoncmeplofedaq
open Go.RowKit Go.Maps

/-- does one of the first n clash with one ahead of it? -/
def clashN (xs : List ByteArray) (n : Nat) : Bool := (List.range n).any fun i => (List.range i).any fun k => clashB (xs.getD i ByteArray.empty) (xs.getD k ByteArray.empty)
def clashesB (xs : List ByteArray) : Bool := clashN xs xs.length

theorem clashN_iff (xs : List ByteArray) (n : Nat) : clashN xs n = true ↔ ∃ i k, i < n ∧ k < i ∧ clashB (xs.getD i ByteArray.empty) (xs.getD k ByteArray.empty) = true := by
  unfold clashN
  simp only [List.any_eq_true, List.mem_range]
  constructor
  · rintro ⟨i, hi, k, hk, h⟩; exact ⟨i, k, hi, hk, h⟩
  · rintro ⟨i, k, hi, hk, h⟩; exact ⟨i, hi, k, hk, h⟩
theorem clashN_not {xs : List ByteArray} {n : Nat} (h : ∀ i k, i < n → k < i → clashB (xs.getD i ByteArray.empty) (xs.getD k ByteArray.empty) = false) : clashN xs n = false := by
  cases hc : clashN xs n with
  | false => rfl
  | true =>
    obtain ⟨i, k, hi, hk, hck⟩ := (clashN_iff xs n).1 hc
    rw [h i k hi hk] at hck
    cases hck
theorem clashesB_of {xs : List ByteArray} {i k : Nat} (hi : i < xs.length) (hk : k < i) (h : clashB (xs.getD i ByteArray.empty) (xs.getD k ByteArray.empty) = true) : clashesB xs = true :=
  (clashN_iff xs xs.length).2 ⟨i, k, hi, hk, h⟩

/-- none of the first n clashes with another one of them -/
def Calm (xs : List ByteArray) (n : Nat) : Prop := ∀ i k, i < n → k < n → digest (xs.getD i ByteArray.empty) = digest (xs.getD k ByteArray.empty) → xs.getD i ByteArray.empty = xs.getD k ByteArray.empty
theorem calm_not {xs : List ByteArray} (h : Calm xs xs.length) : clashesB xs = false :=
  clashN_not fun i k hi hk => by
    cases hc : clashB (xs.getD i ByteArray.empty) (xs.getD k ByteArray.empty) with
    | false => rfl
    | true =>
      obtain ⟨h1, h2⟩ := (clashB_iff _ _).1 hc
      exact absurd (h i k hi (by omega) h2) h1
theorem calm_step {xs : List ByteArray} {n : Nat} (h : Calm xs n) (hn : ∀ k, k < n → digest (xs.getD k ByteArray.empty) = digest (xs.getD n ByteArray.empty) → xs.getD k ByteArray.empty = xs.getD n ByteArray.empty) : Calm xs (n + 1) := by
  intro i k hi hk he
  by_cases h1 : i = n
  · subst h1
    by_cases h2 : k = i
    · subst h2; rfl
    · exact (hn k (by omega) he.symm).symm
  · by_cases h2 : k = n
    · subst h2; exact hn i (by omega) he
    · exact h i k (by omega) (by omega) he

/-- what the map holds: of each digest among the first n the place of a text of that digest -/
def Firsts (D : DataW Unit) (xs : List ByteArray) (n : Nat) : Prop :=
  ∀ d : Int, (has D (.int .i64 d) = true → ∃ j, j < n ∧ digest (xs.getD j ByteArray.empty) = d ∧ D.atKey (.int .i64 d) (.lit (.int .i64 0)) = .lit (.int .i64 (j : Int))) ∧
    (has D (.int .i64 d) = false → ∀ j, j < n → digest (xs.getD j ByteArray.empty) ≠ d)

theorem keyL {d : Int} : WideAt.IsKeyLit (.int .i64 d) := by first | trivial | simp [WideAt.IsKeyLit]
theorem ret_bool {a b : Bool} (h : a = b) : Ending.returned (.bool a) = .returned (.bool b) := by rw [h]
theorem firsts_start (xs : List ByteArray) : Firsts (.map []) xs 0 := fun d => ⟨fun h => by simp [has] at h, fun _ j hj => by omega⟩
theorem firsts_known {D : DataW Unit} {xs : List ByteArray} {n : Nat} (h : Firsts D xs n) (hk : has D (.int .i64 (digest (xs.getD n ByteArray.empty))) = true) : Firsts D xs (n + 1) := fun d => by
  refine ⟨fun hd => ?_, fun hd j hj => ?_⟩
  · obtain ⟨j, h1, h2, h3⟩ := (h d).1 hd
    exact ⟨j, by omega, h2, h3⟩
  · by_cases e : j = n
    · subst e
      intro e2
      rw [e2, hd] at hk
      cases hk
    · exact (h d).2 hd j (by omega)
theorem firsts_new {D : DataW Unit} {xs : List ByteArray} {n : Nat} (h : Firsts D xs n) (hm : IsMap D) : Firsts (D.put (.int .i64 (digest (xs.getD n ByteArray.empty))) (.lit (.int .i64 (n : Int)))) xs (n + 1) := fun d => by
  by_cases e : d = digest (xs.getD n ByteArray.empty)
  · subst e
    refine ⟨fun _ => ⟨n, by omega, rfl, ?_⟩, fun hd => ?_⟩
    · exact atKey_put_same hm keyL _ _
    · rw [has_put_same hm keyL] at hd
      cases hd
  · have hne : (Lit.int .i64 d) ≠ Lit.int .i64 (digest (xs.getD n ByteArray.empty)) := fun h2 => e (by injection h2)
    rw [has_put_other hne, atKey_put_other hne]
    refine ⟨fun hd => ?_, fun hd j hj => ?_⟩
    · obtain ⟨j, h1, h2, h3⟩ := (h d).1 hd
      exact ⟨j, by omega, h2, h3⟩
    · by_cases e3 : j = n
      · subst e3; exact fun h4 => e h4.symm
      · exact (h d).2 hd j (by omega)

theorem getD_size {xs : List ByteArray} {B : Nat} (hs : ∀ s ∈ xs, s.size ≤ B) (k : Nat) : (xs.getD k ByteArray.empty).size ≤ B := by
  by_cases hk : k < xs.length
  · have e : xs.getD k ByteArray.empty = xs[k] := by simp [List.getD, hk]
    rw [e]; exact hs _ (List.getElem_mem hk)
  · have e : xs.getD k ByteArray.empty = ByteArray.empty := by rw [List.getD, List.getElem?_eq_none (Nat.le_of_not_lt hk)]; rfl
    rw [e]; exact Nat.zero_le _



end Go.Proofs.Ytfoncmeplofedaq
