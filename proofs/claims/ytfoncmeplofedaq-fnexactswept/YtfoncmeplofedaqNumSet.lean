/- CONTRACTS: the program's set of numbers: add, has; and the program's Get. -/
import Derived.Test.YtfoncmeplofedaqBlW
import Derived.Test.YtfoncmeplofedaqNumAdd
import Derived.Test.YtfoncmeplofedaqStoP
import Derived.Maps.OwnSet
namespace Go.Proofs.Ytfoncmeplofedaq
open Go.RowKit Go.Maps
set_option linter.unusedVariables false
set_option maxRecDepth 100000 in
theorem has_any (bm n : Nat) (D : DataW Unit) (d : Int) (w : World) (hd : -9223372036854775808 ≤ d ∧ d ≤ 9223372036854775807) (hown : SetM bm n D w) :
    Calls Try.prog 64 #[.map (some bm), .int .i64 d] w fun e w' => e = .returned (.bool (has D (.int .i64 d))) ∧ Below w.heap.size w w' := by
  have hkey := key7 hd
  have hb := (Below.refl w.heap.size w).alloc (Nat.le_refl _) (.cells #[] 121)
  go_enter Try.func64, Try.ntmps64
  go_wp2_with (first
    | (at_lookup; refine wpList_lookup_own_unit _ rfl _ _ 90 rfl 2 121 lawK7 Try.underlying90 (zeroU _) bm n D rfl hown _ _ rfl hkey ?_)
    | go_in)
  go_ret
  exact ⟨rfl, hb⟩
theorem field_text (d : Int) (t : ByteArray) (W : World) : (Instr.field 80 (.agg #[.int .i64 d, .string t]) 1).run Try.prog W = .ok (.string t) W := by kernel_rfl
set_option maxHeartbeats 1000000 in
set_option maxRecDepth 100000 in
theorem implGet_any (va : Value) (l : List Bl) (d : Int) (w : World) (ha : RdB w va l) (hl : l.length ≤ 1048576) (hs : ∀ p ∈ l, p.2.size ≤ 1048576) :
    Calls Try.prog 37 #[va, .int .i64 d] w fun e w' => e = .returned (getV (getT l d)) ∧ Below w.heap.size w w' := by
  have hso := implStoreOk_any va l w ha hl hs
  have HG0 : Hid (storeB l = false → getT l d = none) := fun h => by unfold getT; rw [h]; rfl
  have HG1 : Hid (storeB l = true → getT l d = (findB l d).map (·.2)) := fun h => by unfold getT; rw [if_pos h]
  generalize getT l d = R at HG0 HG1 ⊢
  cases hok : storeB l with
  | false =>
    rw [HG0.out hok]
    rw [hok] at hso
    obtain ⟨ao, cap, rfl⟩ := rdB_shape ha
    clear HG0 HG1 hok ha hs
    go_enter Try.func37, Try.ntmps37
    go_wp2_with fail
    refine hso.mono ?_
    rintro e w9 ⟨rfl, hb9⟩
    clear hso
    go_wp2
    go_ret2
    exact ⟨rfl, hb9⟩
  | true =>
    have HR := Lib.hid (HG1.out hok)
    rw [hok] at hso
    have hri := (storeB_iff.1 hok).2.2
    have hpl := fun w' (h : Below w.heap.size w w') => place_any va l d w' (rdB_below ha h) hl hri
    have HNF : Hid (∀ k, Plc l d k false → R = none) := fun k h => by rw [HR.out, plc_no hri h]; rfl
    have HYF : Hid (∀ k, Plc l d k true → k < l.length ∧ R = some (l.getD k bl0).2) := fun k h => by
      obtain ⟨h1, h2, h3⟩ := plc_yes h
      exact ⟨h1, by rw [HR.out, h3]; rfl⟩
    have HSZ : Hid (∀ i, i < l.length → (l.getD i bl0).2.size ≤ 1048576) := fun i hi => by
      rw [getD_at hi]
      exact hs _ (List.getElem_mem hi)
    have HRD : Hid (RdB w va l) := ha
    clear HG0 HG1 hok hri hs
    obtain ⟨ao, cap, hva⟩ := rdB_shape ha
    obtain ⟨n, hn⟩ : ∃ n, n = l.length := ⟨_, rfl⟩
    have HN : Hid (n = l.length) := hn
    rw [← hn] at hva
    clear ha hn
    subst hva
    go_enter Try.func37, Try.ntmps37
    go_wp2_with fail
    refine hso.mono ?_
    rintro e w9 ⟨rfl, hb9⟩
    have hpl2 := hpl w9 hb9
    clear hso hpl
    go_wp2_with fail
    refine hpl2.mono ?_
    rintro e w8 ⟨k, fd, rfl, hp, hb8⟩
    have hb7 := hb9.trans (hb8.mono hb9.size)
    clear hpl2 hb8 hb9
    cases fd with
    | false =>
      have HN2 := Lib.hid (HNF.out k hp)
      clear hp
      go_wp2
      go_ret2
      exact ⟨by rw [HN2.out]; rfl, hb7⟩
    | true =>
      obtain ⟨hk, hR⟩ := HYF.out k hp
      have HR2 := Lib.hid hR
      obtain ⟨hn0, b, off, cap2, hv2, hcap, hlt, hc⟩ : 0 < l.length ∧ ∃ b off cap2, Value.slice ao n cap = .slice (some ⟨b, off, none⟩) l.length cap2 ∧ l.length ≤ cap2 ∧ b < w.heap.size ∧ ∀ j, j < l.length → w.cell? ⟨b, off + j * 2, none⟩ = some (.int .i64 (l.getD j bl0).1) ∧ w.cell? ⟨b, off + j * 2 + 1, none⟩ = some (.string (l.getD j bl0).2) := by
        rcases rdB_cases HRD.out with ⟨h0, _⟩ | h
        · subst h0; exact absurd hk (Nat.not_lt_zero _)
        · exact h
      simp only [Value.slice.injEq] at hv2
      obtain ⟨rfl, hnl, rfl⟩ := hv2
      clear hnl
      obtain ⟨d0, d1⟩ := cellsB_below hc hlt hb7 k hk
      have hsz := HSZ.out k hk
      have hkn : k < n := by have := HN.out; omega
      obtain ⟨x, hx⟩ : ∃ x, x = l.getD k bl0 := ⟨_, rfl⟩
      rw [← hx] at d0 d1 hsz HR2
      obtain ⟨x1, x2⟩ := x
      simp only at d0 d1 hsz HR2
      have hcall := fun W => blOwn_any x1 x2 W (by omega)
      clear hx hk hR hp hc hn0 hcap HNF HYF HSZ HRD HR
      go_wp2_with fail
      refine (hcall _).mono ?_
      rintro e w6 ⟨rfl, hb6⟩
      have hb5 := hb7.trans (hb6.mono hb7.size)
      clear hcall hb6 hb7
      have hft := fun W => field_text x1 x2 W
      go_wp2
      go_ret2
      exact ⟨by rw [HR2.out]; rfl, hb5⟩
end Go.Proofs.Ytfoncmeplofedaq
