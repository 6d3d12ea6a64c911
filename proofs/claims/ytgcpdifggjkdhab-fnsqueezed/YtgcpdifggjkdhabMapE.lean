/- A MAP WHOSE KEYS ARE FOUR BYTES, AT ITS BLOCK: the look-up, and 'm[k] = append(m[k], x)' (its entry, then its store). It speaks of no function of the program. -/
import Derived.Test.YtgcpdifggjkdhabSqMath
import Derived.Test.YtgcpdifggjkdhabBasis
import Derived.WideKeyEntry
import Derived.WideKeyArr
import Derived.WideKeyPair
import Derived.Maps.OwnRows
import Derived.Lib.Hide
namespace Go.Proofs.Ytgcpdifggjkdhab
open Go.RowKit Go.MapKept
open Go.ChangeMaps (setBlock putKey notKey mem_insert_iff heap_setBlock_same heap_setBlock_other)
open Go.WideElems (Fit rd rg rd_key rg_of)
set_option linter.unusedVariables false

abbrev R0 : Value → Option (DataW Unit × List MemPlace) := fun _ => some (.nil, [])
section
variable {P : Program} {k : TypeId}
theorem rd0 {x : MapEntry} {l : Lit} (h : keyOf P k x.key = some l) : rd P k R0 x = some (l, .nil) := by simp [rd, h]
theorem fit0 {es : Array MapEntry} {clock : Nat} (hs : es.size ≤ maxLen) (S : Stamped es clock) (hk : ∀ x ∈ es.toList, ∃ l, keyOf P k x.key = some l) : Fit P k R0 es clock :=
  ⟨hs, S, fun x hx => by obtain ⟨l, hl⟩ := hk x hx; exact ⟨_, rd0 hl⟩⟩
theorem setBlock_inj {w : World} {b clock : Nat} {es : Array MapEntry} {o o' : Obj} (hb : w.heap[b]? = some (.map es clock)) (h : setBlock w b o = setBlock w b o') : o = o' := by
  have h1 : (setBlock w b o).heap[b]? = some o := heap_setBlock_same hb _
  rw [h, heap_setBlock_same hb] at h1
  exact (Option.some.inj h1).symm
theorem key_once {es : Array MapEntry} {clock : Nat} (S : Stamped es clock) {x y : MapEntry} (hx : x ∈ es.toList) (hy : y ∈ es.toList) (h : x.key = y.key) : x = y := by
  obtain ⟨i, hi, rfl⟩ := List.getElem_of_mem hx
  obtain ⟨j, hj, rfl⟩ := List.getElem_of_mem hy
  have := S.2.2
  have e : i = j := by
    have h2 := (List.nodup_iff_pairwise_ne.1 this)
    rcases Nat.lt_trichotomy i j with g | g | g
    · exact absurd h (by
        have := List.pairwise_iff_getElem.1 h2 i j (by simpa using hi) (by simpa using hj) g
        simpa using this)
    · exact g
    · exact absurd h.symm (by
        have := List.pairwise_iff_getElem.1 h2 j i (by simpa using hj) (by simpa using hi) g
        simpa using this)
  subst e
  rfl
/-- the look-up -/
theorem look_raw {w : World} {t e : TypeId} {es : Array MapEntry} {clock b : Nat} (K : WideMaps.KeyLaw P k) (ht : P.underlying t = some (.map k e)) {z : Value} (hz : (zeroValue e).run P w = .ok z w) (hb : w.heap[b]? = some (.map es clock))
    (hs : es.size ≤ maxLen) (S : Stamped es clock) (hk : ∀ x ∈ es.toList, ∃ l, keyOf P k x.key = some l) {key : Value} {kl : Lit} (hkey : keyOf P k key = some kl) :
    ((Instr.lookup t (.map (some b)) key false).run P w = .ok z w ∧ ∀ x ∈ es.toList, x.key ≠ key) ∨ ∃ x ∈ es.toList, x.key = key ∧ (Instr.lookup t (.map (some b)) key false).run P w = .ok x.val w := by
  rcases Maps.fit_look false (Maps.Keyed.of_law K) ht hz hb (fit0 hs S hk) hkey with ⟨h1, h2, _⟩ | ⟨e0, y, h1, h2, h3, _⟩
  · exact Or.inl ⟨h1, h2⟩
  · exact Or.inr ⟨e0, h1, h2, h3⟩
/-- the entry, and the store into it -/
theorem entry_raw {w : World} {t e : TypeId} {es : Array MapEntry} {clock b : Nat} (K : WideMaps.KeyLaw P k) (ht : P.underlying t = some (.map k e)) {z : Value} (hz : ∀ u : World, (zeroValue e).run P u = .ok z u) (hb : w.heap[b]? = some (.map es clock))
    (hs : es.size < maxLen) (S : Stamped es clock) (hk : ∀ x ∈ es.toList, ∃ l, keyOf P k x.key = some l) {key : Value} {kl : Lit} (hkey : keyOf P k key = some kl) :
    ∃ (v0 : Value) (st : Nat) (es1 : Array MapEntry) (clock1 : Nat), (Instr.mapEntry t (.map (some b)) key).run P w = .ok (.tuple #[v0, goInt st]) (setBlock w b (.map es1 clock1)) ∧
      ((∃ e0 ∈ es.toList, e0.key = key ∧ v0 = e0.val) ∨ ((∀ x ∈ es.toList, x.key ≠ key) ∧ v0 = z)) ∧
      ∀ (w2 : World) (val : Value), w2.heap[b]? = some (.map es1 clock1) → ∃ es' clock', (Instr.entryStore t (.map (some b)) (goInt st) val).run P w2 = .ok () (setBlock w2 b (.map es' clock')) ∧ Stamped es' clock' ∧ es'.size ≤ es.size + 1 ∧
        (∀ x' ∈ es'.toList, (x' ∈ es.toList ∧ x'.key ≠ key) ∨ (x'.key = key ∧ x'.val = val)) ∧ (∀ x ∈ es.toList, x.key ≠ key → x ∈ es'.toList) ∧ ∃ x ∈ es'.toList, x.key = key := by
  have F := fit0 (Nat.le_of_lt hs) S hk
  obtain ⟨v0, st, es1, clock1, h1, h2, h3⟩ := WideElems.entry_then_store (H := Unit) K ht hz hb F hkey
  refine ⟨v0, st, es1, clock1, h1, h2, fun w2 val hw2 => ?_⟩
  obtain ⟨es', clock', g1, g2⟩ := h3 w2 val hw2
  obtain ⟨es'', clock'', f1, f2, f3, _, _, f6⟩ := Maps.fit_store (R' := R0) (Maps.Keyed.of_law K) ht hb F hs (fun x hx hne z hz => hz) hkey (yv := (.nil, [])) (val := val) rfl
  have e : (Obj.map es' clock') = .map es'' clock'' := by
    rw [f1] at g2
    simp only [Result.ok.injEq, true_and] at g2
    exact (setBlock_inj hb g2).symm
  cases e
  have back : ∀ l : Lit, (l, (.nil : DataW Unit)) ∈ putKey kl .nil ((es.toList.map (rg P k R0)).foldr DataW.insert []) → ∃ x ∈ es'.toList, keyOf P k x.key = some l := fun l hl => by
    rw [← f3] at hl
    have := (WideShapes.sorted_perm (H := Unit) _).mem_iff.1 hl
    obtain ⟨x, hx, hxl⟩ := List.mem_map.1 this
    obtain ⟨y, hy⟩ := f2.reads x hx
    rw [rg_of hy] at hxl
    refine ⟨x, hx, ?_⟩
    rw [rd_key hy, hxl]
  refine ⟨es', clock', g1, f2.stamped, ?_, f6, ?_, ?_⟩
  · have e1 : es'.size = ((es'.toList.map (rg P k R0)).foldr DataW.insert []).length := by rw [length_sorted]; simp
    rw [e1, f3]
    unfold putKey
    rw [length_insert]
    have e2 := List.length_filter_le (notKey kl) ((es.toList.map (rg P k R0)).foldr DataW.insert [])
    rw [length_sorted] at e2
    simp at e2
    omega
  · intro x hx hne
    obtain ⟨l, hl⟩ := hk x hx
    have hlne : l ≠ kl := fun e => hne (K.inj hl (by rw [e]; exact hkey))
    obtain ⟨x', hx', hl'⟩ := back l (by
      unfold putKey
      refine mem_insert_iff.2 (Or.inr (List.mem_filter.2 ⟨(WideShapes.sorted_perm (H := Unit) _).mem_iff.2 (List.mem_map.2 ⟨x, hx, rg_of (rd0 hl)⟩), ?_⟩))
      exact (Maps.notKey_iff ((Maps.Keyed.of_law K).key hkey)).2 hlne)
    have hkk := K.inj hl' hl
    rcases f6 x' hx' with ⟨a1, _⟩ | ⟨a1, _⟩
    · rw [← key_once S a1 hx hkk]
      exact hx'
    · exact absurd (hkk.symm.trans a1) hne
  · obtain ⟨x', hx', hl'⟩ := back kl (by
      unfold putKey
      exact mem_insert_iff.2 (Or.inl rfl))
    exact ⟨x', hx', K.inj hl' hkey⟩
end
end Go.Proofs.Ytgcpdifggjkdhab
