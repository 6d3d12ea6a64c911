/- CONTRACTS: the specification's l8Told, Told. -/
import Derived.Test.YtdiammehnakchacGreatTreeS
import Derived.Test.YtdiammehnakchacGreatToldMath
import Derived.Test.YtdiammehnakchacGreatStoP
import Derived.Test.YtdiammehnakchacGreatOneT
import Derived.Test.YtdiammehnakchacGreatClashes
namespace Go.Proofs.YtdiammehnakchacGreat
open Go.RowKit
set_option linter.unusedVariables false
abbrev stOf (l : List Bl) (d : Int) : Option ByteArray := (findB l d).map (·.2)
theorem told_len {st : Int → Option ByteArray} : ∀ (n : Nat) (d : Int) (out o : List ByteArray), out.length ≤ 64 → toldF st n d out = some o → o.length ≤ 64 := by
  intro n
  induction n with
  | zero => intro d out o _ h; cases h
  | succ n ih =>
    intro d out o hl h
    have fold : ∀ (ds : List Int) (out o : List ByteArray), out.length ≤ 64 → ds.foldlM (fun o e => toldF st n e o) out = some o → o.length ≤ 64 := by
      intro ds
      induction ds with
      | nil => intro out o hl h; obtain rfl : out = o := Option.some.inj h; exact hl
      | cons e r ihr =>
        intro out o hl h
        rw [List.foldlM_cons] at h
        cases hx : toldF st n e out with
        | none => rw [hx] at h; cases h
        | some x =>
          rw [hx] at h
          exact ihr x o (ih e out x hl hx) h
    cases hs : st d with
    | none => rw [told_none n out hs] at h; cases h
    | some s =>
      cases hc : childT s with
      | none => rw [told_neither n out hs hc] at h; cases h
      | some l =>
        by_cases hn : l = []
        · subst hn
          rw [told_leaf n out hs hc] at h
          split at h
          · obtain rfl := Option.some.inj h
            rw [List.length_append, List.length_singleton]; omega
          · cases h
        · rw [told_branch n out hs hc hn] at h
          exact fold l out o hl h
theorem leaf_head {s : ByteArray} (h : childT s = some []) : 0 < s.size ∧ (byts s).getD 0 0 = 0 ∧ chunkT s = s.extract 1 s.size := by
  rcases child_back h with ⟨r, hr, _⟩ | ⟨_, hk⟩
  · have hl := byts_len s
    rw [hr] at hl
    refine ⟨by unfold leafL at hl; simp at hl; omega, by rw [hr]; rfl, bytsT_inj ?_⟩
    rw [drop_ext]
    unfold chunkT
    exact asB_byts _ (bytes_drop (byts_bytes s) 1)
  · exact absurd hk.1 (by simp)
theorem branch_head {s : ByteArray} {l : List Int} (h : childT s = some l) (hn : l ≠ []) : 0 < s.size ∧ (byts s).getD 0 0 = 1 ∧ l.length ≤ 4 := by
  rcases child_back h with ⟨r, hr, h0⟩ | ⟨hr, hk⟩
  · exact absurd h0 hn
  · have hl := byts_len s
    rw [hr, brL_ok hk] at hl
    exact ⟨by simp at hl; omega, by rw [hr, brL_ok hk]; rfl, hk.2.1⟩
/-- rows of numbers stay -/
def KeepI (w w' : World) : Prop := ∀ (k : Nat) (cur : Array Value) (fr : Nat × Nat), w.heap[k]? = some (.cells cur 2 fr) → w'.heap[k]? = some (.cells cur 2 fr)
theorem keepI_refl (w : World) : KeepI w w := fun _ _ _ h => h
theorem keepI_trans {a b c : World} (h : KeepI a b) (k : KeepI b c) : KeepI a c := fun i cur fr e => k i cur fr (h i cur fr e)
theorem keepI_below {w w' : World} (h : Below w.heap.size w w') : KeepI w w' := fun k cur fr e => (h.block k (Array.getElem?_eq_some_iff.1 e).1).trans e
theorem keepI_owns {w w' : World} {base : Nat} {v : Value} {n : Nat} {xs : List Value} (h : w.ownsRow base 2 1 v n xs) (hk : KeepI w w') : w'.ownsRow base 2 1 v n xs := by
  refine ⟨h.1, ?_⟩
  rcases h.2 with hn | ⟨g, cap, cur, rfl, hb, hgg, rest⟩
  · exact Or.inl hn
  · exact Or.inr ⟨g, cap, cur, rfl, hb, hk g cur _ hgg, rest⟩
theorem keepI_grown {w w' : World} {base : Nat} {v : Value} {n : Nat} {xs : List Value} (h : w.ownsRow base 9 1 v n xs) (hg : w.grownBy w' v.ownBlock) : KeepI w w' := fun k cur fr e => by
  refine (hg.block k (Array.getElem?_eq_some_iff.1 e).1 (fun hk => ?_)).trans e
  rcases h.2 with ⟨rfl, _⟩ | ⟨g, cap, cur2, rfl, hb, hgg, rest⟩
  · cases hk
  · obtain rfl : k = g := Option.some.inj hk
    rw [e] at hgg
    simp only [Option.some.injEq, Obj.cells.injEq] at hgg
    exact absurd hgg.2.1 (by decide)
theorem below_keep {w0 w w' : World} {v : Value} {n : Nat} {xs : List Value} {e : TypeId} {size : Nat} (hb : Below w0.heap.size w0 w) (h : w.ownsRow w0.heap.size e size v n xs) (hg : w.grownBy w' v.ownBlock) : Below w0.heap.size w0 w' := hb.grown hg hb.size (fun k hk => (h.lt k hk).1)
theorem owns_headI {w : World} {base : Nat} {e : TypeId} {a : Option Addr} {n c : Nat} {xs : List Value} (h : w.ownsRow base e 1 (.slice a n c) n xs) (hp : 0 < n) : ∃ (g : Nat) (c' : Nat), (a = some ⟨g, 0, none⟩ ∧ c = c') ∧ g < w.heap.size := by
  rcases h.2 with ⟨_, h0⟩ | ⟨g, cap, cur, hv, hg, hh, _⟩
  · omega
  · simp only [Value.slice.injEq] at hv
    exact ⟨g, cap, ⟨hv.1, hv.2.2⟩, (Array.getElem?_eq_some_iff.1 hh).1⟩
def ToldEnd (R : Option (List ByteArray)) (w : World) (e : Ending) (w' : World) : Prop :=
  ∃ v, e = .returned (.tuple #[v, .bool R.isSome]) ∧ w'.ownsRow w.heap.size 9 1 v (R.getD []).length (cellsS (R.getD [])) ∧ Below w.heap.size w w'
theorem toldEnd_none {w w' : World} {v : Value} (ho : w'.ownsRow w.heap.size 9 1 v 0 []) (hb : Below w.heap.size w w') : ToldEnd none w (.returned (.tuple #[v, .bool false])) w' := ⟨v, rfl, ho, hb⟩
theorem toldEnd_some {w w' : World} {v : Value} {l : List ByteArray} (ho : w'.ownsRow w.heap.size 9 1 v l.length (cellsS l)) (hb : Below w.heap.size w w') : ToldEnd (some l) w (.returned (.tuple #[v, .bool true])) w' := ⟨v, rfl, ho, hb⟩
end Go.Proofs.YtdiammehnakchacGreat
