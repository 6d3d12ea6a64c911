/- CONTRACT: the program's taking (the Digest and the code of Put). -/
import Derived.Test.YtfoncmeplofedaqGreatDoorBunb
import Derived.Test.YtfoncmeplofedaqGreatDoorStoP
import Derived.Deep.RegionWith
import Derived.Deep.RegionHeld
namespace Go.Proofs.YtfoncmeplofedaqGreatDoor
open Go.RowKit
set_option linter.unusedVariables false
/-- what the program's Put tells: of several codes the one that is named first -/
def putI (l : List Bl) (s : ByteArray) : List Bl × Int × Int :=
  if storeB l = true then
    (match findB l (digest s) with
      | some p => if p.2 = s then (l, digest s, 1) else (l, 0, 2)
      | none => if l.length = 300 then (l, 0, 3) else if 2000 < s.size then (l, 0, 4) else (insB l (digest s, s), digest s, 0))
  else ([], 0, 4)
/-- it is what the specification tells, but where the text is too long and its digest is there, or the store is full -/
theorem putI_same {l : List Bl} {s : ByteArray} (h : storeB l = true → 2000 < s.size → findB l (digest s) = none ∧ l.length ≠ 300) : putI l s = putT l s := by
  unfold putI putT
  by_cases hs : storeB l = true
  · rw [if_pos hs, if_pos hs]
    by_cases h2 : 2000 < s.size
    · obtain ⟨h3, h4⟩ := h hs h2
      rw [if_pos h2, h3]
      simp only
      rw [if_neg h4, if_pos h2]
    · rw [if_neg h2]
      cases findB l (digest s) with
      | some p => simp only; rw [if_neg h2]
      | none => simp only; rw [if_neg h2]
  · rw [if_neg hs, if_neg hs]
/-- what taking tells of a store -/
def takT (l : List Bl) (s : ByteArray) : Int × Int :=
  match findB l (digest s) with
    | some p => if p.2 = s then (digest s, 1) else (0, 2)
    | none => if l.length = 300 then (0, 3) else if 2000 < s.size then (0, 4) else (digest s, 0)
theorem putI_tak {l : List Bl} {s : ByteArray} (h : storeB l = true) : putI l s = (if (takT l s).2 = 0 then insB l (digest s, s) else l, (takT l s).1, (takT l s).2) := by
  have key : ∀ R, takT l s = R → putI l s = (if R.2 = 0 then insB l (digest s, s) else l, R.1, R.2) := fun R hR => by
    unfold takT at hR
    unfold putI
    rw [if_pos h]
    cases hf : findB l (digest s) with
    | some p =>
      rw [hf] at hR
      simp only at hR ⊢
      by_cases h1 : p.2 = s
      · rw [if_pos h1] at hR ⊢; subst hR; rfl
      · rw [if_neg h1] at hR ⊢; subst hR; rfl
    | none =>
      rw [hf] at hR
      simp only at hR ⊢
      by_cases h1 : l.length = 300
      · rw [if_pos h1] at hR ⊢; subst hR; rfl
      · rw [if_neg h1] at hR ⊢
        by_cases h2 : 2000 < s.size
        · rw [if_pos h2] at hR ⊢; subst hR; rfl
        · rw [if_neg h2] at hR ⊢; subst hR; rfl
  exact key _ rfl
theorem takT_new {l : List Bl} {s : ByteArray} (h : (takT l s).2 = 0) : findB l (digest s) = none := by
  unfold takT at h
  cases hf : findB l (digest s) with
  | none => rfl
  | some p =>
    rw [hf] at h
    simp only at h
    by_cases h1 : p.2 = s
    · rw [if_pos h1] at h; cases h
    · rw [if_neg h1] at h; cases h
set_option maxHeartbeats 2000000 in
set_option maxRecDepth 100000 in
theorem taking_any (va : Value) (l : List Bl) (s : ByteArray) (w : World) (ha : RdB w va l) (hl : l.length ≤ 1048576) (hss : s.size ≤ 1048576) (hok : storeB l = true) :
    Calls Tryz.prog 59 #[va, .agg #[.int .i64 (digest s), .string s]] w fun e w' => e = .returned (.tuple #[.int .i64 (takT l s).1, .int .i64 (takT l s).2]) ∧ Below w.heap.size w w' := by
  have hsto := storeB_iff.1 hok
  have hl3 := hsto.1
  have hri := hsto.2.2
  have HP1 : Hid (∀ p, findB l (digest s) = some p → p.2 = s → takT l s = (digest s, 1)) := fun p h1 h2 => by unfold takT; rw [h1]; simp only; rw [if_pos h2]
  have HP2 : Hid (∀ p, findB l (digest s) = some p → p.2 ≠ s → takT l s = (0, 2)) := fun p h1 h2 => by unfold takT; rw [h1]; simp only; rw [if_neg h2]
  have HP3 : Hid (findB l (digest s) = none → l.length = 300 → takT l s = (0, 3)) := fun h1 h2 => by unfold takT; rw [h1]; simp only; rw [if_pos h2]
  have HP5 : Hid (findB l (digest s) = none → l.length ≠ 300 → 2000 < s.size → takT l s = (0, 4)) := fun h1 h2 h3 => by unfold takT; rw [h1]; simp only; rw [if_neg h2, if_pos h3]
  have HP4 : Hid (findB l (digest s) = none → l.length ≠ 300 → ¬ 2000 < s.size → takT l s = (digest s, 0)) := fun h1 h2 h3 => by unfold takT; rw [h1]; simp only; rw [if_neg h2, if_neg h3]
  have HWR : Hid (wrongB (digest s, s) = decide (2000 < s.size)) := by show _ = _; unfold wrongB; simp
  have HW := Lib.hid (fun w' => blWrong_any (digest s) s w' (by omega))
  have HPL : Hid (∀ w', Below w.heap.size w w' → Calls Tryz.prog 75 #[va, .int .i64 (digest s)] w' fun e w'' => ∃ (k : Nat) (fd : Bool), e = .returned (.tuple #[.int .i64 (k : Int), .bool fd]) ∧ (fd = false → findB l (digest s) = none) ∧ (fd = true → k < l.length ∧ findB l (digest s) = some (l.getD k bl0)) ∧ Below w'.heap.size w' w'') := fun w' h => by
    refine (place_any va l (digest s) w' (rdB_below ha h) hl hri).mono ?_
    rintro e w'' ⟨k, fd, rfl, hp, hb⟩
    refine ⟨k, fd, rfl, fun h => ?_, fun h => ?_, hb⟩
    · subst h; exact plc_no hri hp
    · subst h; exact ⟨(plc_yes hp).1, (plc_yes hp).2.2⟩
  have HRB : Hid (∀ w', Below w.heap.size w w' → RdB w' va l) := fun w' h => rdB_below ha h
  generalize takT l s = R at HP1 HP2 HP3 HP4 HP5 ⊢
  obtain ⟨D, hD⟩ : ∃ D, D = digest s := ⟨_, rfl⟩
  rw [← hD] at HP1 HP2 HP3 HP4 HP5 HWR HW HPL ⊢
  clear hD hsto hok hss hl hri
  obtain ⟨ao, cap, hva⟩ := rdB_shape ha
  obtain ⟨n, hn⟩ : ∃ n, n = l.length := ⟨_, rfl⟩
  have HN : Hid (n = l.length) := hn
  rw [← hn] at hva hl3
  clear ha hn
  subst hva
  have ba : Below w.heap.size w (w.alloc (.cells #[.int .i64 D, .string s] 67)) := (Below.refl _ _).alloc (Nat.le_refl _) _
  have hbx := heap_alloc_new w (.cells #[.int .i64 D, .string s] 67)
  have hcall := HPL.out _ ba
  go_enter Tryz.func59, Tryz.ntmps59
  go_wp2_with fail
  refine hcall.mono ?_
  rintro e w7 ⟨k, fd, rfl, hf0, hf1, hb7⟩
  have B7 := ba.trans (hb7.mono ba.size)
  have hbx7 := (hb7.block w.heap.size (by rw [World.size_alloc]; omega)).trans hbx
  have hz7 := hb7.size
  rw [World.size_alloc] at hz7
  clear hcall hb7 ba hbx HPL
  have k0 : w7.cell? ⟨w.heap.size, 0, none⟩ = some (.int .i64 D) := cell_of_row w7 w.heap.size 0 _ _ (0, 0) hbx7
  have k1 : w7.cell? ⟨w.heap.size, 1, none⟩ = some (.string s) := cell_of_row w7 w.heap.size 1 _ _ (0, 0) hbx7
  have hsw : w.heap.size ≤ w7.heap.size := B7.size
  cases fd with
  | true =>
    obtain ⟨hk, hfb⟩ := hf1 rfl
    have HQ1 := Lib.hid (HP1.out _ hfb)
    have HQ2 := Lib.hid (HP2.out _ hfb)
    have HR3 := HRB.out w7 B7
    obtain ⟨hn0, b, off, cap', hv, hcap, hlt, hc⟩ : 0 < l.length ∧ ∃ b off cap', Value.slice ao n cap = .slice (some ⟨b, off, none⟩) l.length cap' ∧ l.length ≤ cap' ∧ b < w7.heap.size ∧ ∀ j, j < l.length → w7.cell? ⟨b, off + j * 2, none⟩ = some (.int .i64 (l.getD j bl0).1) ∧ w7.cell? ⟨b, off + j * 2 + 1, none⟩ = some (.string (l.getD j bl0).2) := by
      rcases rdB_cases HR3 with ⟨h0, _⟩ | h
      · subst h0; exact absurd hk (Nat.not_lt_zero _)
      · exact h
    simp only [Value.slice.injEq] at hv
    obtain ⟨rfl, hn2, rfl⟩ := hv
    obtain ⟨d0, d1⟩ := hc k hk
    rw [← hn2] at hk
    obtain ⟨x, hx⟩ : ∃ x, x = (l.getD k bl0).2 := ⟨_, rfl⟩
    obtain ⟨y, hy⟩ : ∃ y, y = (l.getD k bl0).1 := ⟨_, rfl⟩
    rw [← hx] at d1 HQ1 HQ2
    rw [← hy] at d0
    have HB7 := Lib.hid B7
    clear hc hx hy HP1 HP2 HP3 HP4 HP5 hf0 hf1 hfb hn2 HR3 hcap hn0 HW HWR HRB B7 hbx7
    by_cases hxs : x = s
    · have HE := Lib.hid (HQ1.out hxs)
      subst hxs
      clear HQ1 HQ2
      go_wp2
      go_region_with (fail)
      all_goals
        go_wp2
        go_ret2
        exact ⟨by rw [HE.out]; rfl, HB7.out.drew⟩
    · have HE := Lib.hid (HQ2.out hxs)
      have g0 : ¬ x.toList = s.toList := fun e => hxs (same_of e)
      have g1 : (x.toList == s.toList) = false := by simp [g0]
      clear HQ1 HQ2
      go_wp2
      go_region_with (fail)
      all_goals
        go_wp2
        go_ret2
        exact ⟨by rw [HE.out]; rfl, HB7.out.drew⟩
  | false =>
    have hfb := hf0 rfl
    have HQ3 := Lib.hid (HP3.out hfb)
    have HQ4 := Lib.hid (HP4.out hfb)
    have HQ5 := Lib.hid (HP5.out hfb)
    have hcwr := HW.out
    rw [HWR.out] at hcwr
    have HB7 := Lib.hid B7
    clear HP1 HP2 HP3 HP4 HP5 hf0 hf1 hfb HW HWR HRB B7
    by_cases h300 : n = 300
    · have HE := Lib.hid (HQ3.out (by rw [← HN.out]; exact h300))
      have h300I : (n : Int) = 300 := by omega
      clear HQ3 HQ4 HQ5 hcwr h300
      go_wp2
      go_quiet (fail)
      go_wp2
      go_ret2
      exact ⟨by rw [HE.out]; rfl, by first | exact HB7.out | exact HB7.out.drew | exact below_drewN HB7.out _⟩
    · have h300I : ¬ (n : Int) = 300 := by omega
      have hne : l.length ≠ 300 := by rw [← HN.out]; exact h300
      by_cases h2 : 2000 < s.size
      · have HE := Lib.hid (HQ5.out hne h2)
        rw [decide_eq_true h2] at hcwr
        clear HQ3 HQ4 HQ5 h2 hne
        go_wp2
        go_quiet (fail)
        go_wp2_with fail
        refine (hcwr _).mono ?_
        rintro e u1 ⟨rfl, hb1⟩
        have HB6 := Lib.hid ((below_drewN HB7.out _).trans (hb1.mono hsw))
        clear hcwr hb1
        go_wp2
        go_ret2
        exact ⟨by rw [HE.out]; rfl, HB6.out⟩
      · have HE := Lib.hid (HQ4.out hne h2)
        rw [decide_eq_false h2] at hcwr
        clear HQ3 HQ4 HQ5 h2 hne
        go_wp2
        go_quiet (fail)
        go_wp2_with fail
        refine (hcwr _).mono ?_
        rintro e u1 ⟨rfl, hb1⟩
        have HB6 := Lib.hid ((below_drewN HB7.out _).trans (hb1.mono hsw))
        have hx1 := (hb1.block w.heap.size (show w.heap.size < w7.heap.size by omega)).trans hbx7
        have q0 : u1.cell? ⟨w.heap.size, 0, none⟩ = some (.int .i64 D) := cell_of_row u1 w.heap.size 0 _ _ (0, 0) hx1
        clear hcwr hb1 hx1 hbx7
        go_wp2
        try go_region_with (fail)
        all_goals (try go_wp2)
        all_goals
          go_ret2
          exact ⟨by rw [HE.out]; rfl, by first | exact HB6.out | exact HB6.out.drew⟩
end Go.Proofs.YtfoncmeplofedaqGreatDoor
