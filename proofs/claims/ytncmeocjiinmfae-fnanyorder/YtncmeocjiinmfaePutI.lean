/- CONTRACTS: the program's with, Put. -/
import Derived.Test.YtncmeocjiinmfaeInsW
import Derived.Test.YtncmeocjiinmfaeStoP
namespace Go.Proofs.Ytncmeocjiinmfae
open Go.RowKit
set_option linter.unusedVariables false
theorem one_at (w : World) (x1 : Int) (x2 : ByteArray) (e : TypeId) : ∀ j u, (blC [(x1, x2)])[j]? = some u → (w.alloc (.cells #[.int .i64 x1, .string x2] e)).cell? ((⟨w.heap.size, 0, none⟩ : Addr).add j) = some u := fun j u hu => by
  rw [Addr.add_lit, Nat.zero_add, cell_of_row _ w.heap.size j _ _ (0, 0) (heap_alloc_new w _), List.getElem?_toArray]
  exact hu
set_option maxHeartbeats 2000000 in
set_option maxRecDepth 100000 in
theorem withBl_any (va : Value) (l : List Bl) (x1 : Int) (x2 : ByteArray) (w : World) (ha : RdB w va l) (hl : l.length ≤ 300) (hs : ∀ p ∈ l, p.2.size ≤ 1048576) (hx2 : x2.size ≤ 1048576) (hr : l.Pairwise (fun p q => p.1 < q.1)) (hnot : ∀ p ∈ l, p.1 ≠ x1) :
    Calls Try.prog 51 #[va, .agg #[.int .i64 x1, .string x2]] w fun e w' => ∃ v, e = .returned v ∧ w'.ownsRow w.heap.size 76 2 v (insB l (x1, x2)).length (blC (insB l (x1, x2))) ∧ Below w.heap.size w w' := by
  have mn := fun z W => meth_number z W
  have mo := fun z W => meth_own z W
  have ba : Below w.heap.size w (w.alloc (.cells #[.int .i64 x1, .string x2] 76)) := (Below.refl _ _).alloc (Nat.le_refl _) _
  have hnum := blNumber_any x1 x2 (w.alloc (.cells #[.int .i64 x1, .string x2] 76))
  have hbx := heap_alloc_new w (.cells #[.int .i64 x1, .string x2] 76)
  have HPL : Hid (∀ w', Below w.heap.size w w' → Calls Try.prog 48 #[va, .int .i64 x1] w' fun e w'' => ∃ (k : Nat) (fd : Bool), e = .returned (.tuple #[.int .i64 (k : Int), .bool fd]) ∧ (k ≤ l.length ∧ insB l (x1, x2) = l.take k ++ [(x1, x2)] ++ l.drop k) ∧ Below w'.heap.size w' w'') := fun w' h => by
    refine (place_any va l x1 w' (rdB_below ha h) (by omega) hr).mono ?_
    rintro e w'' ⟨k, fd, rfl, hp, hb⟩
    exact ⟨k, fd, rfl, ⟨hp.1, ins_at (x := (x1, x2)) hr hnot hp.1 hp.2.1 (fun h => by have := hp.2.2.1 k (Nat.le_refl _) h; omega)⟩, hb⟩
  have HOWN : Hid (∀ w', Below w.heap.size w w' → Calls Try.prog 49 #[va] w' fun e w'' => ∃ g, e = .returned (.slice (some ⟨g, 0, none⟩) l.length l.length) ∧ w''.ownsRow w'.heap.size 76 2 (.slice (some ⟨g, 0, none⟩) l.length l.length) l.length (blC l) ∧ Below w'.heap.size w' w'') := fun w' h => ownBl_any va l w' (rdB_below ha h) (by omega) (fun p hp => by have := hs p hp; omega)
  have HIN : Hid (∀ (k : Nat), k ≤ l.length → ∀ (B g : Nat) (w' : World), B ≤ w'.heap.size → w'.ownsRow B 76 2 (.slice (some ⟨g, 0, none⟩) l.length l.length) l.length (blC l) → insB l (x1, x2) = l.take k ++ [(x1, x2)] ++ l.drop k → Calls Try.prog 71 #[.slice (some ⟨g, 0, none⟩) l.length l.length, .int .i64 (k : Int), .slice (some ⟨w'.heap.size, 0, none⟩) 1 1] (w'.alloc (.cells #[.int .i64 x1, .string x2] 76)) fun e w'' => ∃ v, e = .returned v ∧ w''.ownsRow B 76 2 v (insB l (x1, x2)).length (blC (insB l (x1, x2))) ∧ (w'.alloc (.cells #[.int .i64 x1, .string x2] 76)).grownBy w'' (some g)) := fun k hk B g w' hB ho he => by
    have hlen : (insB l (x1, x2)).length = l.length + 1 := insB_len (p := (x1, x2)) hnot
    have h := insert_any B g w'.heap.size l.length k l (x1, x2) (w'.alloc (.cells #[.int .i64 x1, .string x2] 76)) rfl (ho.alloc _) (one_at w' x1 x2 _) hk (by omega) (by rw [World.size_alloc]; omega)
    rw [← he, ← hlen] at h
    exact h
  obtain ⟨ao, cap, hva⟩ := rdB_shape ha
  generalize insB l (x1, x2) = R at HPL HIN ⊢
  obtain ⟨n, hn⟩ : ∃ n, n = l.length := ⟨_, rfl⟩
  rw [← hn] at hva HPL HOWN HIN hl
  clear hn ha hs hr hnot
  subst hva
  go_enter Try.func51, Try.ntmps51
  go_wp2_with fail
  refine hnum.mono ?_
  rintro e w2 ⟨rfl, hb2⟩
  have B2 := ba.trans (hb2.mono ba.size)
  have hbx2 := (hb2.block w.heap.size (by rw [World.size_alloc]; omega)).trans hbx
  have hz2 := hb2.size
  rw [World.size_alloc] at hz2
  clear ba hb2 hbx hnum
  have hcall := HPL.out w2 B2
  go_wp2_with fail
  refine hcall.mono ?_
  rintro e w3 ⟨k, fd, rfl, ⟨hk, hins⟩, hb3⟩
  have B3 := B2.trans (hb3.mono B2.size)
  have hbx3 := (hb3.block w.heap.size (by omega)).trans hbx2
  have hz3 := hb3.size
  have HINS : Hid (∀ (B g : Nat) (w' : World), B ≤ w'.heap.size → w'.ownsRow B 76 2 (.slice (some ⟨g, 0, none⟩) n n) n (blC l) → Calls Try.prog 71 #[.slice (some ⟨g, 0, none⟩) n n, .int .i64 (k : Int), .slice (some ⟨w'.heap.size, 0, none⟩) 1 1] (w'.alloc (.cells #[.int .i64 x1, .string x2] 76)) fun e w'' => ∃ v, e = .returned v ∧ w''.ownsRow B 76 2 v R.length (blC R) ∧ (w'.alloc (.cells #[.int .i64 x1, .string x2] 76)).grownBy w'' (some g)) := fun B g w' hB ho => HIN.out k hk B g w' hB ho hins
  have HRC : Hid (∀ w', Below w3.heap.size w3 w' → w'.cell? ⟨w.heap.size, 0, none⟩ = some (.int .i64 x1) ∧ w'.cell? ⟨w.heap.size, 1, none⟩ = some (.string x2)) := fun w' hw' => by
    have h := (hw'.block w.heap.size (by omega)).trans hbx3
    exact ⟨cell_of_row w' w.heap.size 0 _ _ (0, 0) h, cell_of_row w' w.heap.size 1 _ _ (0, 0) h⟩
  have HB0 : Hid (Below w3.heap.size w3 w3.drew) := (Below.refl _ _).drew
  have k0 := HRC.out _ HB0.out
  have hcown := HOWN.out w3.drew B3.drew
  have HB3 := Lib.hid B3
  have hzw : w.heap.size < w3.heap.size := by omega
  clear hcall hb3 B2 B3 hbx2 hbx3 hz2 hz3 hins HIN HPL HOWN hk
  go_wp2
  go_region_held (fun w' : World => w'.cell? ⟨w.heap.size, 0, none⟩ = some (.int .i64 x1) ∧ w'.cell? ⟨w.heap.size, 1, none⟩ = some (.string x2))
    (first | exact k0 | exact k1 | exact k2 | exact k3 | exact k4 | go_keep)
    (first
    | (go_at_call 49; refine hcown.mono ?_; rintro e u1 ⟨g, rfl, hog, hb1⟩; have HB1 : Hid (Below w3.heap.size w3 u1) := HB0.out.trans (hb1.mono HB0.out.size); have k1 := HRC.out _ HB1.out; have HOG := Lib.hid (owns_base hog (show w3.heap.size ≤ w3.drew.heap.size from Nat.le_refl _)); clear hb1 hog)
    | (go_at_call 109; refine (blOwn_any x1 x2 _ (by omega)).mono ?_; rintro e u2 ⟨rfl, hb2⟩; have HB2 : Hid (Below w3.heap.size w3 u2) := HB1.out.trans (hb2.mono HB1.out.size); have k2 := HRC.out _ HB2.out; have HOG2 := Lib.hid (owns_below HOG.out hb2); have k3 := HRC.out _ (HB2.out.alloc HB2.out.size (.cells #[.int .i64 x1, .string x2] 76)); have hci := HINS.out w3.heap.size g u2 HB2.out.size HOG2.out; clear hb2)
    | (go_at_call 71; refine hci.mono ?_; rintro e u4 ⟨vr, rfl, ho4, hg4⟩; have HB4 : Hid (Below w3.heap.size w3 u4) := (HB2.out.alloc HB2.out.size _).grown hg4 (by rw [World.size_alloc]; have := HB2.out.size; omega) (fun i h => by have e : g = i := Option.some.inj h; have := (HOG2.out.lt g rfl).1; omega); have k4 := HRC.out _ HB4.out; have HO4 := Lib.hid ho4; clear ho4 hg4))
  all_goals
    go_wp2
    go_ret
    exact ⟨_, rfl, owns_base HO4.out (by omega), HB3.out.trans (HB4.out.mono (by omega))⟩
/-- what the program's Put tells: of several codes the one that is named first -/
def putI (l : List Bl) (s : ByteArray) : List Bl × Int × Int :=
  if storeB l = true then
    (match findB l (digest s) with
      | some p => if p.2 = s then (l, digest s, 1) else (l, 0, 2)
      | none => if l.length = 300 then (l, 0, 3) else if 2000 < s.size then (l, 0, 4) else (insB l (digest s, s), digest s, 0))
  else ([], 0, 4)
/-- it is what the specification tells, but where the text is too long and its digest is there, or the store is full -/
theorem putI_same {l : List Bl} {s : ByteArray} (h : storeB l = true → 2000 < s.size → findB l (digest s) = none ∧ l.length ≠ 300) : putI l s = putT l s := by
  unfold putI putT
  by_cases hs : storeB l = true
  · rw [if_pos hs, if_pos hs]
    by_cases h2 : 2000 < s.size
    · obtain ⟨h3, h4⟩ := h hs h2
      rw [if_pos h2, h3]
      simp only
      rw [if_neg h4, if_pos h2]
    · rw [if_neg h2]
      cases findB l (digest s) with
      | some p => simp only; rw [if_neg h2]
      | none => simp only; rw [if_neg h2]
  · rw [if_neg hs, if_neg hs]
set_option maxHeartbeats 2000000 in
set_option maxRecDepth 100000 in
theorem implPut_any (va : Value) (l : List Bl) (s : ByteArray) (w : World) (ha : RdB w va l) (hl : l.length ≤ 1048576) (hs : ∀ p ∈ l, p.2.size ≤ 1048576) (hss : s.size ≤ 1048576) :
    Calls Try.prog 21 #[va, .string s] w fun e w' => ∃ v, e = .returned (.tuple #[v, .int .i64 (putI l s).2.1, .int .i64 (putI l s).2.2]) ∧ w'.ownsRow w.heap.size 76 2 v (putI l s).1.length (blC (putI l s).1) ∧ Below w.heap.size w w' := by
  have hso := implStoreOk_any va l w ha hl hs
  cases hok : storeB l with
  | false =>
    have e : putI l s = ([], 0, 4) := by unfold putI; rw [hok]; rfl
    rw [e]
    rw [hok] at hso
    clear e hok hs
    obtain ⟨ao, cap, rfl⟩ := rdB_shape ha
    generalize l.length = n at hso ⊢
    clear ha
    go_enter Try.func21, Try.ntmps21
    go_wp2_with fail
    refine hso.mono ?_
    rintro e w9 ⟨rfl, hb9⟩
    clear hso
    go_wp2
    exact bodyPost_ret (v := .tuple #[.slice none 0 0, .int .i64 0, .int .i64 4]) (by simp [results, Try.results21, go_sem]) rfl ⟨_, rfl, World.ownsRow_nil _ _ _ _, hb9⟩
  | true =>
    rw [hok] at hso
    have hsto := storeB_iff.1 hok
    have hl3 := hsto.1
    have hri := hsto.2.2
    have HP1 : Hid (∀ p, findB l (digest s) = some p → p.2 = s → putI l s = (l, digest s, 1)) := fun p h1 h2 => by unfold putI; rw [if_pos hok, h1]; simp only; rw [if_pos h2]
    have HP2 : Hid (∀ p, findB l (digest s) = some p → p.2 ≠ s → putI l s = (l, 0, 2)) := fun p h1 h2 => by unfold putI; rw [if_pos hok, h1]; simp only; rw [if_neg h2]
    have HP3 : Hid (findB l (digest s) = none → l.length = 300 → putI l s = (l, 0, 3)) := fun h1 h2 => by unfold putI; rw [if_pos hok, h1]; simp only; rw [if_pos h2]
    have HP5 : Hid (findB l (digest s) = none → l.length ≠ 300 → 2000 < s.size → putI l s = (l, 0, 4)) := fun h1 h2 h3 => by unfold putI; rw [if_pos hok, h1]; simp only; rw [if_neg h2, if_pos h3]
    have HP4 : Hid (findB l (digest s) = none → l.length ≠ 300 → ¬ 2000 < s.size → putI l s = (insB l (digest s, s), digest s, 0)) := fun h1 h2 h3 => by unfold putI; rw [if_pos hok, h1]; simp only; rw [if_neg h2, if_neg h3]
    have HWR : Hid (wrongB (digest s, s) = decide (2000 < s.size)) := by show _ = _; unfold wrongB; simp
    have hdg := fun w' => implDigest_any s w' (by omega)
    have HW := Lib.hid (fun w' => blWrong_any (digest s) s w' (by omega))
    have HPL : Hid (∀ w', Below w.heap.size w w' → Calls Try.prog 48 #[va, .int .i64 (digest s)] w' fun e w'' => ∃ (k : Nat) (fd : Bool), e = .returned (.tuple #[.int .i64 (k : Int), .bool fd]) ∧ (fd = false → findB l (digest s) = none) ∧ (fd = true → k < l.length ∧ findB l (digest s) = some (l.getD k bl0)) ∧ Below w'.heap.size w' w'') := fun w' h => by
      refine (place_any va l (digest s) w' (rdB_below ha h) hl hri).mono ?_
      rintro e w'' ⟨k, fd, rfl, hp, hb⟩
      refine ⟨k, fd, rfl, fun h => ?_, fun h => ?_, hb⟩
      · subst h; exact plc_no hri hp
      · subst h; exact ⟨(plc_yes hp).1, (plc_yes hp).2.2⟩
    have HOWN : Hid (∀ w', Below w.heap.size w w' → Calls Try.prog 49 #[va] w' fun e w'' => ∃ v, e = .returned v ∧ w''.ownsRow w.heap.size 76 2 v l.length (blC l) ∧ Below w'.heap.size w' w'') := fun w' h => by
      refine (ownBl_any va l w' (rdB_below ha h) (by omega) (fun p hp => by have := hs p hp; omega)).mono ?_
      rintro e w'' ⟨g, rfl, ho, hb⟩
      exact ⟨_, rfl, owns_base ho h.size, hb⟩
    have HWITH : Hid (findB l (digest s) = none → ∀ w', Below w.heap.size w w' → Calls Try.prog 51 #[va, .agg #[.int .i64 (digest s), .string s]] w' fun e w'' => ∃ v, e = .returned v ∧ w''.ownsRow w.heap.size 76 2 v (insB l (digest s, s)).length (blC (insB l (digest s, s))) ∧ Below w'.heap.size w' w'') := fun hn w' h => by
      refine (withBl_any va l (digest s) s w' (rdB_below ha h) hl3 hs hss hri (findB_none.1 hn)).mono ?_
      rintro e w'' ⟨v, rfl, ho, hb⟩
      exact ⟨_, rfl, owns_base ho h.size, hb⟩
    have HRB : Hid (∀ w', Below w.heap.size w w' → RdB w' va l) := fun w' h => rdB_below ha h
    generalize putI l s = R at HP1 HP2 HP3 HP4 HP5 ⊢
    obtain ⟨D, hD⟩ : ∃ D, D = digest s := ⟨_, rfl⟩
    rw [← hD] at HP1 HP2 HP3 HP4 HP5 HWR hdg HW HPL HWITH
    clear hD hsto hs hok hss hl hri
    obtain ⟨ao, cap, hva⟩ := rdB_shape ha
    obtain ⟨n, hn⟩ : ∃ n, n = l.length := ⟨_, rfl⟩
    have HN : Hid (n = l.length) := hn
    rw [← hn] at hva hl3
    clear ha hn
    subst hva
    go_enter Try.func21, Try.ntmps21
    go_wp2_with fail
    refine hso.mono ?_
    rintro e w9 ⟨rfl, hb9⟩
    clear hso
    go_wp2_with fail
    refine (hdg _).mono ?_
    rintro e w8 ⟨rfl, rfl⟩
    have ba : Below w.heap.size w (w8.alloc (.cells #[.int .i64 D, .string s] 76)) := hb9.alloc hb9.size _
    have hbx := heap_alloc_new w8 (.cells #[.int .i64 D, .string s] 76)
    have hcall := HPL.out _ ba
    have hz8 := hb9.size
    clear hdg hb9
    go_wp2_with fail
    refine hcall.mono ?_
    rintro e w7 ⟨k, fd, rfl, hf0, hf1, hb7⟩
    have B7 := ba.trans (hb7.mono ba.size)
    have hbx7 := (hb7.block w8.heap.size (by rw [World.size_alloc]; omega)).trans hbx
    have hz7 := hb7.size
    rw [World.size_alloc] at hz7
    clear hcall hb7 ba hbx HPL
    have HRC : Hid (∀ w', Below w7.heap.size w7 w' → w'.cell? ⟨w8.heap.size, 0, none⟩ = some (.int .i64 D) ∧ w'.cell? ⟨w8.heap.size, 1, none⟩ = some (.string s)) := fun w' hw' => by
      have h := (hw'.block w8.heap.size (by omega)).trans hbx7
      exact ⟨cell_of_row w' w8.heap.size 0 _ _ (0, 0) h, cell_of_row w' w8.heap.size 1 _ _ (0, 0) h⟩
    have hsw : w.heap.size ≤ w7.heap.size := B7.size
    cases fd with
    | true =>
      obtain ⟨hk, hfb⟩ := hf1 rfl
      have HQ1 := Lib.hid (HP1.out _ hfb)
      have HQ2 := Lib.hid (HP2.out _ hfb)
      have HR3 := HRB.out w7 B7
      obtain ⟨hn0, b, off, cap', hv, hcap, hlt, hc⟩ : 0 < l.length ∧ ∃ b off cap', Value.slice ao n cap = .slice (some ⟨b, off, none⟩) l.length cap' ∧ l.length ≤ cap' ∧ b < w7.heap.size ∧ ∀ j, j < l.length → w7.cell? ⟨b, off + j * 2, none⟩ = some (.int .i64 (l.getD j bl0).1) ∧ w7.cell? ⟨b, off + j * 2 + 1, none⟩ = some (.string (l.getD j bl0).2) := by
        rcases rdB_cases HR3 with ⟨h0, _⟩ | h
        · subst h0; exact absurd hk (Nat.not_lt_zero _)
        · exact h
      simp only [Value.slice.injEq] at hv
      obtain ⟨rfl, hn2, rfl⟩ := hv
      obtain ⟨d0, d1⟩ := hc k hk
      rw [← hn2] at hk
      obtain ⟨x, hx⟩ : ∃ x, x = (l.getD k bl0).2 := ⟨_, rfl⟩
      obtain ⟨y, hy⟩ : ∃ y, y = (l.getD k bl0).1 := ⟨_, rfl⟩
      rw [← hx] at d1 HQ1 HQ2
      rw [← hy] at d0
      have hcow := HOWN.out w7 B7
      have hcod := HOWN.out w7.drew B7.drew
      have HB7 := Lib.hid B7
      clear hc hx hy HP1 HP2 HP3 HP4 HP5 hf0 hf1 hfb hn2 HR3 hcap hn0 HWITH HW HWR HRB HOWN B7 hbx7
      by_cases hxs : x = s
      focus
        have hR := HQ1.out hxs
        subst hR
        subst hxs
        have HB0 : Hid (Below w7.heap.size w7 w7.drew) := (Below.refl _ _).drew
        have k0 := HRC.out _ HB0.out
        clear HQ1 HQ2 hcow
        go_wp2
        go_region_held (fun w' : World => w'.cell? ⟨w8.heap.size, 0, none⟩ = some (.int .i64 D) ∧ w'.cell? ⟨w8.heap.size, 1, none⟩ = some (.string x)) (first | exact k0 | exact k1)
          (first | (go_at_call 49; refine hcod.mono ?_; rintro e u1 ⟨v, rfl, ho1, hb1⟩; have HB1 : Hid (Below w7.heap.size w7 u1) := HB0.out.trans (hb1.mono HB0.out.size); have k1 := HRC.out _ HB1.out; have HO1 := Lib.hid ho1; clear hb1 ho1))
        all_goals
          go_wp2
          exact bodyPost_ret (v := .tuple #[v, .int .i64 D, .int .i64 1]) (by simp [results, Try.results21, go_sem]) rfl ⟨_, rfl, HO1.out, HB7.out.trans (HB1.out.mono hsw)⟩
      have hR := HQ2.out hxs
      subst hR
      have g0 : ¬ x.toList = s.toList := fun e => hxs (same_of e)
      have g1 : (x.toList == s.toList) = false := by simp [g0]
      clear HQ1 HQ2 hcod
      go_wp2_with fail
      refine hcow.mono ?_
      rintro e u1 ⟨v, rfl, ho1, hb1⟩
      have HB1 := Lib.hid (HB7.out.trans (hb1.mono hsw))
      clear hcow hb1
      go_wp2
      exact bodyPost_ret (v := .tuple #[v, .int .i64 0, .int .i64 2]) (by simp [results, Try.results21, go_sem]) rfl ⟨_, rfl, ho1, HB1.out⟩
    | false =>
      have hfb := hf0 rfl
      have HQ3 := Lib.hid (HP3.out hfb)
      have HQ4 := Lib.hid (HP4.out hfb)
      have HQ5 := Lib.hid (HP5.out hfb)
      have HWI := Lib.hid (HWITH.out hfb)
      have hcow := HOWN.out w7 B7
      have hcwr := HW.out w7
      rw [HWR.out] at hcwr
      obtain ⟨k0, k1⟩ := HRC.out w7 (Below.refl _ _)
      clear HP1 HP2 HP3 HP4 HP5 hf0 hf1 hfb HWITH HW HWR HRB hbx7
      by_cases h300 : n = 300
      focus
        have hR := HQ3.out (by rw [← HN.out]; exact h300)
        subst hR
        have h300I : (n : Int) = 300 := by omega
        have HB7 := Lib.hid B7
        clear HQ3 HQ4 HQ5 HWI hcwr B7 HOWN h300
        go_wp2_with fail
        refine hcow.mono ?_
        rintro e u1 ⟨v, rfl, ho1, hb1⟩
        have HB1 := Lib.hid (HB7.out.trans (hb1.mono hsw))
        clear hcow hb1
        go_wp2
        exact bodyPost_ret (v := .tuple #[v, .int .i64 0, .int .i64 3]) (by simp [results, Try.results21, go_sem]) rfl ⟨_, rfl, ho1, HB1.out⟩
      have h300I : ¬ (n : Int) = 300 := by omega
      have hne : l.length ≠ 300 := by rw [← HN.out]; exact h300
      by_cases h2 : 2000 < s.size
      focus
        have hR := HQ5.out hne h2
        subst hR
        rw [decide_eq_true h2] at hcwr
        clear HQ3 HQ4 HQ5 HWI hcow h2
        go_wp2_with fail
        refine hcwr.mono ?_
        rintro e u1 ⟨rfl, hb1⟩
        have B6 := B7.trans (hb1.mono hsw)
        have hcow := HOWN.out u1 B6
        clear hcwr hb1 B7 HOWN
        go_wp2_with fail
        refine hcow.mono ?_
        rintro e u2 ⟨v, rfl, ho2, hb2⟩
        have HB2 := Lib.hid (B6.trans (hb2.mono B6.size))
        clear hcow hb2 B6
        go_wp2
        exact bodyPost_ret (v := .tuple #[v, .int .i64 0, .int .i64 4]) (by simp [results, Try.results21, go_sem]) rfl ⟨_, rfl, ho2, HB2.out⟩
      have hR := HQ4.out hne h2
      subst hR
      rw [decide_eq_false h2] at hcwr
      clear HQ3 HQ4 HQ5 hcow h2 HOWN
      go_wp2_with fail
      refine hcwr.mono ?_
      rintro e u1 ⟨rfl, hb1⟩
      have B6 := B7.trans (hb1.mono hsw)
      have hcw := HWI.out u1.drew B6.drew
      have HB0 : Hid (Below w7.heap.size w7 u1.drew) := hb1.drew
      have k2 := HRC.out _ HB0.out
      have HB6 := Lib.hid B6
      have HB7 := Lib.hid B7
      clear hcwr hb1 B7 B6 k0 k1
      go_wp2
      go_region_held (fun w' : World => w'.cell? ⟨w8.heap.size, 0, none⟩ = some (.int .i64 D) ∧ w'.cell? ⟨w8.heap.size, 1, none⟩ = some (.string s)) (first | exact k2 | exact k3)
        (first | (go_at_call 51; refine hcw.mono ?_; rintro e u2 ⟨v, rfl, ho2, hb2⟩; have HB2 : Hid (Below w7.heap.size w7 u2) := HB0.out.trans (hb2.mono HB0.out.size); have k3 := HRC.out _ HB2.out; have HO2 := Lib.hid ho2; clear hb2 ho2))
      all_goals
        go_wp2
        exact bodyPost_ret (v := .tuple #[v, .int .i64 D, .int .i64 0]) (by simp [results, Try.results21, go_sem]) rfl ⟨_, rfl, HO2.out, HB7.out.trans (HB2.out.mono hsw)⟩
end Go.Proofs.Ytncmeocjiinmfae
