/- CONTRACTS: the program's with, Put. -/
import Derived.Test.YtfoncmeplofedaeInsW
import Derived.Test.YtfoncmeplofedaeTakI
namespace Go.Proofs.Ytfoncmeplofedae
open Go.RowKit
set_option linter.unusedVariables false
theorem one_at (w : World) (x1 : Int) (x2 : ByteArray) (e : TypeId) : ∀ j u, (blC [(x1, x2)])[j]? = some u → (w.alloc (.cells #[.int .i64 x1, .string x2] e)).cell? ((⟨w.heap.size, 0, none⟩ : Addr).add j) = some u := fun j u hu => by
  rw [Addr.add_lit, Nat.zero_add, cell_of_row _ w.heap.size j _ _ (0, 0) (heap_alloc_new w _), List.getElem?_toArray]
  exact hu
set_option maxHeartbeats 2000000 in
set_option maxRecDepth 100000 in
theorem withBl_any (va : Value) (l : List Bl) (x1 : Int) (x2 : ByteArray) (w : World) (ha : RdB w va l) (hl : l.length ≤ 300) (hs : ∀ p ∈ l, p.2.size ≤ 1048576) (hx2 : x2.size ≤ 1048576) (hr : l.Pairwise (fun p q => p.1 < q.1)) (hnot : ∀ p ∈ l, p.1 ≠ x1) :
    Calls Try.prog 49 #[va, .agg #[.int .i64 x1, .string x2]] w fun e w' => ∃ v, e = .returned v ∧ w'.ownsRow w.heap.size 76 2 v (insB l (x1, x2)).length (blC (insB l (x1, x2))) ∧ Below w.heap.size w w' := by
  have mn := fun z W => meth_number z W
  have mo := fun z W => meth_own z W
  have ba : Below w.heap.size w (w.alloc (.cells #[.int .i64 x1, .string x2] 76)) := (Below.refl _ _).alloc (Nat.le_refl _) _
  have hnum := blNumber_any x1 x2 (w.alloc (.cells #[.int .i64 x1, .string x2] 76))
  have hbx := heap_alloc_new w (.cells #[.int .i64 x1, .string x2] 76)
  have HPL : Hid (∀ w', Below w.heap.size w w' → Calls Try.prog 68 #[va, .int .i64 x1] w' fun e w'' => ∃ (k : Nat) (fd : Bool), e = .returned (.tuple #[.int .i64 (k : Int), .bool fd]) ∧ (k ≤ l.length ∧ insB l (x1, x2) = l.take k ++ [(x1, x2)] ++ l.drop k) ∧ Below w'.heap.size w' w'') := fun w' h => by
    refine (place_any va l x1 w' (rdB_below ha h) (by omega) hr).mono ?_
    rintro e w'' ⟨k, fd, rfl, hp, hb⟩
    exact ⟨k, fd, rfl, ⟨hp.1, ins_at (x := (x1, x2)) hr hnot hp.1 hp.2.1 (fun h => by have := hp.2.2.1 k (Nat.le_refl _) h; omega)⟩, hb⟩
  have HOWN : Hid (∀ w', Below w.heap.size w w' → Calls Try.prog 50 #[va] w' fun e w'' => ∃ g, e = .returned (.slice (some ⟨g, 0, none⟩) l.length l.length) ∧ w''.ownsRow w'.heap.size 76 2 (.slice (some ⟨g, 0, none⟩) l.length l.length) l.length (blC l) ∧ Below w'.heap.size w' w'') := fun w' h => ownBl_any va l w' (rdB_below ha h) (by omega) (fun p hp => by have := hs p hp; omega)
  have HIN : Hid (∀ (k : Nat), k ≤ l.length → ∀ (B g : Nat) (w' : World), B ≤ w'.heap.size → w'.ownsRow B 76 2 (.slice (some ⟨g, 0, none⟩) l.length l.length) l.length (blC l) → insB l (x1, x2) = l.take k ++ [(x1, x2)] ++ l.drop k → Calls Try.prog 69 #[.slice (some ⟨g, 0, none⟩) l.length l.length, .int .i64 (k : Int), .slice (some ⟨w'.heap.size, 0, none⟩) 1 1] (w'.alloc (.cells #[.int .i64 x1, .string x2] 76)) fun e w'' => ∃ v, e = .returned v ∧ w''.ownsRow B 76 2 v (insB l (x1, x2)).length (blC (insB l (x1, x2))) ∧ (w'.alloc (.cells #[.int .i64 x1, .string x2] 76)).grownBy w'' (some g)) := fun k hk B g w' hB ho he => by
    have hlen : (insB l (x1, x2)).length = l.length + 1 := insB_len (p := (x1, x2)) hnot
    have h := insert_any B g w'.heap.size l.length k l (x1, x2) (w'.alloc (.cells #[.int .i64 x1, .string x2] 76)) rfl (ho.alloc _) (one_at w' x1 x2 _) hk (by omega) (by rw [World.size_alloc]; omega)
    rw [← he, ← hlen] at h
    exact h
  obtain ⟨ao, cap, hva⟩ := rdB_shape ha
  generalize insB l (x1, x2) = R at HPL HIN ⊢
  obtain ⟨n, hn⟩ : ∃ n, n = l.length := ⟨_, rfl⟩
  rw [← hn] at hva HPL HOWN HIN hl
  clear hn ha hs hr hnot
  subst hva
  go_enter Try.func49, Try.ntmps49
  go_wp2_with fail
  refine hnum.mono ?_
  rintro e w2 ⟨rfl, hb2⟩
  have B2 := ba.trans (hb2.mono ba.size)
  have hbx2 := (hb2.block w.heap.size (by rw [World.size_alloc]; omega)).trans hbx
  have hz2 := hb2.size
  rw [World.size_alloc] at hz2
  clear ba hb2 hbx hnum
  have hcall := HPL.out w2 B2
  go_wp2_with fail
  refine hcall.mono ?_
  rintro e w3 ⟨k, fd, rfl, ⟨hk, hins⟩, hb3⟩
  have B3 := B2.trans (hb3.mono B2.size)
  have hbx3 := (hb3.block w.heap.size (by omega)).trans hbx2
  have hz3 := hb3.size
  have HINS : Hid (∀ (B g : Nat) (w' : World), B ≤ w'.heap.size → w'.ownsRow B 76 2 (.slice (some ⟨g, 0, none⟩) n n) n (blC l) → Calls Try.prog 69 #[.slice (some ⟨g, 0, none⟩) n n, .int .i64 (k : Int), .slice (some ⟨w'.heap.size, 0, none⟩) 1 1] (w'.alloc (.cells #[.int .i64 x1, .string x2] 76)) fun e w'' => ∃ v, e = .returned v ∧ w''.ownsRow B 76 2 v R.length (blC R) ∧ (w'.alloc (.cells #[.int .i64 x1, .string x2] 76)).grownBy w'' (some g)) := fun B g w' hB ho => HIN.out k hk B g w' hB ho hins
  have HRC : Hid (∀ w', Below w3.heap.size w3 w' → w'.cell? ⟨w.heap.size, 0, none⟩ = some (.int .i64 x1) ∧ w'.cell? ⟨w.heap.size, 1, none⟩ = some (.string x2)) := fun w' hw' => by
    have h := (hw'.block w.heap.size (by omega)).trans hbx3
    exact ⟨cell_of_row w' w.heap.size 0 _ _ (0, 0) h, cell_of_row w' w.heap.size 1 _ _ (0, 0) h⟩
  have HB0 : Hid (Below w3.heap.size w3 w3.drew) := (Below.refl _ _).drew
  have k0 := HRC.out _ HB0.out
  have hcown := HOWN.out w3.drew B3.drew
  have HB3 := Lib.hid B3
  have hzw : w.heap.size < w3.heap.size := by omega
  clear hcall hb3 B2 B3 hbx2 hbx3 hz2 hz3 hins HIN HPL HOWN hk
  go_wp2
  go_region_held (fun w' : World => w'.cell? ⟨w.heap.size, 0, none⟩ = some (.int .i64 x1) ∧ w'.cell? ⟨w.heap.size, 1, none⟩ = some (.string x2))
    (first | exact k0 | exact k1 | exact k2 | exact k3 | exact k4 | go_keep)
    (first
    | (go_at_call 50; refine hcown.mono ?_; rintro e u1 ⟨g, rfl, hog, hb1⟩; have HB1 : Hid (Below w3.heap.size w3 u1) := HB0.out.trans (hb1.mono HB0.out.size); have k1 := HRC.out _ HB1.out; have HOG := Lib.hid (owns_base hog (show w3.heap.size ≤ w3.drew.heap.size from Nat.le_refl _)); clear hb1 hog)
    | (go_at_call 110; refine (blOwn_any x1 x2 _ (by omega)).mono ?_; rintro e u2 ⟨rfl, hb2⟩; have HB2 : Hid (Below w3.heap.size w3 u2) := HB1.out.trans (hb2.mono HB1.out.size); have k2 := HRC.out _ HB2.out; have HOG2 := Lib.hid (owns_below HOG.out hb2); have k3 := HRC.out _ (HB2.out.alloc HB2.out.size (.cells #[.int .i64 x1, .string x2] 76)); have hci := HINS.out w3.heap.size g u2 HB2.out.size HOG2.out; clear hb2)
    | (go_at_call 69; refine hci.mono ?_; rintro e u4 ⟨vr, rfl, ho4, hg4⟩; have HB4 : Hid (Below w3.heap.size w3 u4) := (HB2.out.alloc HB2.out.size _).grown hg4 (by rw [World.size_alloc]; have := HB2.out.size; omega) (fun i h => by have e : g = i := Option.some.inj h; have := (HOG2.out.lt g rfl).1; omega); have k4 := HRC.out _ HB4.out; have HO4 := Lib.hid ho4; clear ho4 hg4))
  all_goals
    go_wp2
    go_ret
    exact ⟨_, rfl, owns_base HO4.out (by omega), HB3.out.trans (HB4.out.mono (by omega))⟩
set_option maxHeartbeats 4000000 in
set_option maxRecDepth 100000 in
theorem implPut_any (va : Value) (l : List Bl) (s : ByteArray) (w : World) (ha : RdB w va l) (hl : l.length ≤ 1048576) (hs : ∀ p ∈ l, p.2.size ≤ 1048576) (hss : s.size ≤ 1048576) :
    Calls Try.prog 21 #[va, .string s] w fun e w' => ∃ v, e = .returned (.tuple #[v, .int .i64 (putI l s).2.1, .int .i64 (putI l s).2.2]) ∧ w'.ownsRow w.heap.size 76 2 v (putI l s).1.length (blC (putI l s).1) ∧ Below w.heap.size w w' := by
  have hso := implStoreOk_any va l w ha hl hs
  cases hok : storeB l with
  | false =>
    have e : putI l s = ([], 0, 4) := by unfold putI; rw [hok]; rfl
    rw [e]
    rw [hok] at hso
    clear e hok hs
    obtain ⟨ao, cap, rfl⟩ := rdB_shape ha
    generalize l.length = n at hso ⊢
    clear ha
    go_enter Try.func21, Try.ntmps21
    go_wp2_with fail
    refine hso.mono ?_
    rintro e w9 ⟨rfl, hb9⟩
    clear hso
    go_wp2
    exact bodyPost_ret (v := .tuple #[.slice none 0 0, .int .i64 0, .int .i64 4]) (by simp [results, Try.results21, go_sem]) rfl ⟨_, rfl, World.ownsRow_nil _ _ _ _, hb9⟩
  | true =>
    rw [hok] at hso
    have hsto := storeB_iff.1 hok
    have hl3 := hsto.1
    have hri := hsto.2.2
    rw [putI_tak hok]
    have hdg := fun w' => implDigest_any s w' (by omega)
    have HTK : Hid (∀ w', Below w.heap.size w w' → Calls Try.prog 48 #[va, .agg #[.int .i64 (digest s), .string s]] w' fun e w'' => e = .returned (.tuple #[.int .i64 (takT l s).1, .int .i64 (takT l s).2]) ∧ Below w'.heap.size w' w'') := fun w' h => taking_any va l s w' (rdB_below ha h) hl hss hok
    have HOWN : Hid (∀ w', Below w.heap.size w w' → Calls Try.prog 50 #[va] w' fun e w'' => ∃ v, e = .returned v ∧ w''.ownsRow w.heap.size 76 2 v l.length (blC l) ∧ Below w'.heap.size w' w'') := fun w' h => by
      refine (ownBl_any va l w' (rdB_below ha h) (by omega) (fun p hp => by have := hs p hp; omega)).mono ?_
      rintro e w'' ⟨g, rfl, ho, hb⟩
      exact ⟨_, rfl, owns_base ho h.size, hb⟩
    have HWITH : Hid ((takT l s).2 = 0 → ∀ w', Below w.heap.size w w' → Calls Try.prog 49 #[va, .agg #[.int .i64 (digest s), .string s]] w' fun e w'' => ∃ v, e = .returned v ∧ w''.ownsRow w.heap.size 76 2 v (insB l (digest s, s)).length (blC (insB l (digest s, s))) ∧ Below w'.heap.size w' w'') := fun hn w' h => by
      refine (withBl_any va l (digest s) s w' (rdB_below ha h) hl3 hs hss hri (findB_none.1 (takT_new hn))).mono ?_
      rintro e w'' ⟨v, rfl, ho, hb⟩
      exact ⟨_, rfl, owns_base ho h.size, hb⟩
    generalize takT l s = R at HTK HWITH ⊢
    obtain ⟨D, hD⟩ : ∃ D, D = digest s := ⟨_, rfl⟩
    rw [← hD] at hdg HTK HWITH ⊢
    obtain ⟨d9, c9⟩ := R
    generalize insB l (D, s) = IN at HWITH ⊢
    have HHI : Hid (c9 = 0 → ∀ (w' : World) (v : Value), w'.ownsRow w.heap.size 76 2 v IN.length (blC IN) → w'.ownsRow w.heap.size 76 2 v (if (d9, c9).2 = 0 then IN else l).length (blC (if (d9, c9).2 = 0 then IN else l))) := fun h w' v ho => by rw [if_pos h]; exact ho
    have HLO : Hid (¬ c9 = 0 → ∀ (w' : World) (v : Value), w'.ownsRow w.heap.size 76 2 v l.length (blC l) → w'.ownsRow w.heap.size 76 2 v (if (d9, c9).2 = 0 then IN else l).length (blC (if (d9, c9).2 = 0 then IN else l))) := fun h w' v ho => by rw [if_neg h]; exact ho
    generalize (if (d9, c9).2 = 0 then IN else l) = RL at HHI HLO ⊢
    clear hD hsto hs hok hss hl hri hl3
    obtain ⟨ao, cap, hva⟩ := rdB_shape ha
    generalize l.length = n at hva HOWN HLO
    clear ha
    subst hva
    go_enter Try.func21, Try.ntmps21
    go_wp2_with fail
    refine hso.mono ?_
    rintro e w9 ⟨rfl, hb9⟩
    clear hso
    go_wp2_with fail
    refine (hdg _).mono ?_
    rintro e w8 ⟨rfl, rfl⟩
    have ba : Below w.heap.size w (w8.alloc (.cells #[.int .i64 D, .string s] 76)) := hb9.alloc hb9.size _
    have hbx := heap_alloc_new w8 (.cells #[.int .i64 D, .string s] 76)
    have hcall := HTK.out _ ba
    clear hdg hb9 HTK
    go_wp2_with fail
    refine hcall.mono ?_
    rintro e w7 ⟨rfl, hb7⟩
    have B7 := ba.trans (hb7.mono ba.size)
    have hbx7 := (hb7.block w8.heap.size (by rw [World.size_alloc]; omega)).trans hbx
    have k0 : w7.cell? ⟨w8.heap.size, 0, none⟩ = some (.int .i64 D) := cell_of_row w7 w8.heap.size 0 _ _ (0, 0) hbx7
    have k1 : w7.cell? ⟨w8.heap.size, 1, none⟩ = some (.string s) := cell_of_row w7 w8.heap.size 1 _ _ (0, 0) hbx7
    have hcow := HOWN.out w7 B7
    have HB7 := Lib.hid B7
    have hs7 := B7.size
    clear hcall hb7 ba hbx hbx7 B7
    by_cases hc : c9 = 0
    · have hcw := HWITH.out hc w7 HB7.out
      have HH := Lib.hid (HHI.out hc)
      subst hc
      clear HWITH HOWN HHI HLO hcow
      go_wp2_with fail
      refine hcw.mono ?_
      rintro e w6 ⟨v, rfl, ho6, hb6⟩
      have HB6 := Lib.hid (HB7.out.trans (hb6.mono hs7))
      have HO6 := Lib.hid ho6
      clear hcw hb6 ho6
      go_wp2
      exact bodyPost_ret (v := .tuple #[v, .int .i64 d9, .int .i64 0]) (by simp [results, Try.results21, go_sem]) rfl ⟨_, rfl, HH.out _ _ HO6.out, HB6.out⟩
    · have HH := Lib.hid (HLO.out hc)
      clear HWITH HOWN HHI HLO
      go_wp2_with fail
      refine hcow.mono ?_
      rintro e w6 ⟨v, rfl, ho6, hb6⟩
      have HB6 := Lib.hid (HB7.out.trans (hb6.mono hs7))
      have HO6 := Lib.hid ho6
      clear hcow hb6 ho6
      go_wp2
      exact bodyPost_ret (v := .tuple #[v, .int .i64 d9, .int .i64 c9]) (by simp [results, Try.results21, go_sem]) rfl ⟨_, rfl, HH.out _ _ HO6.out, HB6.out⟩
end Go.Proofs.Ytfoncmeplofedae
