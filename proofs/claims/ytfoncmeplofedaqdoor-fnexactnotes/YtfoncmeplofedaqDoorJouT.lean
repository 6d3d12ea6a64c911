/- CONTRACT: the specification's ShowNote. -/
import Derived.Test.YtfoncmeplofedaqDoorJouQ
import Derived.Test.YtfoncmeplofedaqDoorJouS
import Derived.Deep.RegionLaw
namespace Go.Proofs.YtfoncmeplofedaqDoor
open Go.RowKit
set_option linter.unusedVariables false
theorem byts_two (a b : ByteArray) : byts (a ++ b) = byts a ++ byts b := by
  simp [byts, ByteArray.data_append]
set_option maxHeartbeats 4000000 in
set_option maxRecDepth 100000 in
theorem specShowNote_any (k a : Int) (t : ByteArray) (w : World) (ht : t.size ≤ 1048576) :
    Calls Tryd.prog 17 #[.agg #[.int .i64 k, .int .i64 a, .string t]] w fun e w' => e = .returned (.string (showT (k, a, t))) ∧ Below w.heap.size w w' := by
  obtain ⟨W1, hW1⟩ : ∃ W1, W1 = w.alloc (.cells #[.int .i64 k, .int .i64 a, .string t] 29) := ⟨_, rfl⟩
  have hb1 : Below w.heap.size w W1 := by rw [hW1]; exact (Below.refl w.heap.size w).alloc (Nat.le_refl _) _
  have hs1 : W1.heap.size = w.heap.size + 1 := by rw [hW1, World.size_alloc]
  have hbox : W1.heap[w.heap.size]? = some (.cells #[.int .i64 k, .int .i64 a, .string t] 29 (0, 0)) := by rw [hW1]; exact heap_alloc_new w _
  have HC : Hid (∀ W, Below (w.heap.size + 1) W1 W → W.cell? ⟨w.heap.size, 0, none⟩ = some (.int .i64 k) ∧ W.cell? ⟨w.heap.size, 1, none⟩ = some (.int .i64 a) ∧ W.cell? ⟨w.heap.size, 2, none⟩ = some (.string t)) := fun W h => by
    have h9 := (h.block w.heap.size (by omega)).trans hbox
    exact ⟨cell_of_row W _ 0 _ _ (0, 0) h9, cell_of_row W _ 1 _ _ (0, 0) h9, cell_of_row W _ 2 _ _ (0, 0) h9⟩
  have HLO : Hid (∀ W, Below (w.heap.size + 1) W1 W → Below w.heap.size w W ∧ w.heap.size + 1 ≤ W.heap.size) := fun W h => ⟨hb1.trans (h.mono (by omega)), by have := h.size; omega⟩
  have hok := specNoteOk_any k a t W1 ht
  rw [hs1] at hok
  cases hn : noteB (k, a, t) with
  | false =>
    have e : showT (k, a, t) = ByteArray.empty := by unfold showT; rw [if_neg (by rw [hn]; decide)]
    rw [e]
    rw [hn] at hok
    have HW := Lib.hid hW1
    have x0 := HC.out _ (Below.refl _ _)
    rw [hW1] at hok x0
    obtain ⟨x0, x1, x2⟩ := x0
    clear e hn hbox hs1 hb1 hW1 ht HC
    go_enter Tryd.func17, Tryd.ntmps17
    go_wp2_with fail
    refine hok.mono ?_
    rintro e w2 ⟨rfl, hb2⟩
    have HB := Lib.hid (HLO.out w2 (by rw [HW.out]; exact hb2)).1
    clear hok hb2
    go_wp2
    go_ret
    exact ⟨rfl, HB.out⟩
  | true =>
    have e : showT (k, a, t) = asB (showL (k, a, t)) := by unfold showT; rw [if_pos hn]
    rw [e]
    rw [hn] at hok
    obtain ⟨hd, hhd⟩ : ∃ hd, hd = asB (numsB [k, a]) := ⟨_, rfl⟩
    have HNU : Hid (∀ W, Below (w.heap.size + 1) W1 W → Calls Tryd.prog 28 #[.slice (some ⟨W.heap.size, 0, none⟩) 2 2] (W.alloc (.cells #[.int .i64 k, .int .i64 a] 2)).drew fun e w' => e = .returned (.string hd) ∧ Hid (Below (w.heap.size + 1) W1 w')) := fun W hW => by
      have hl : (W.alloc (.cells #[.int .i64 k, .int .i64 a] 2)).ownsRow (w.heap.size + 1) 2 1 (.slice (some ⟨W.heap.size, 0, none⟩) 2 2) ([k, a] : List Int).length (cellsInt64S [k, a]) := World.ownsRow_lit (base := w.heap.size + 1) (e := 2) (size := 1) W #[.int .i64 k, .int .i64 a] 2 (HLO.out W hW).2 (by unfold maxLen; omega) rfl
      refine (specNumbers_any _ [k, a] (W.alloc (.cells #[.int .i64 k, .int .i64 a] 2)).drew (rd_owns hl) (by simp)).mono ?_
      rintro e w' ⟨rfl, hb⟩
      rw [hhd]
      exact ⟨rfl, ((hW.alloc (HLO.out W hW).2 _).drew).trans (hb.mono (by have := (HLO.out W hW).2; show _ ≤ (W.alloc _).heap.size; rw [World.size_alloc]; omega))⟩
    obtain ⟨bd, hbd⟩ : ∃ bd, bd = bodyT (k, a, t) := ⟨_, rfl⟩
    have HTX : Hid (∀ W, Below (w.heap.size + 1) W1 W → Calls Tryd.prog 27 #[.slice (some ⟨W.heap.size, 0, none⟩) 2 2] (W.alloc (.cells #[.string hd, .string t] 9)) fun e w' => e = .returned (.string bd) ∧ Hid (Below (w.heap.size + 1) W1 w')) := fun W hW => by
      have hl : (W.alloc (.cells #[.string hd, .string t] 9)).ownsRow (w.heap.size + 1) 9 1 (.slice (some ⟨W.heap.size, 0, none⟩) 2 2) ([hd, t] : List ByteArray).length (cellsS [hd, t]) := World.ownsRow_lit (base := w.heap.size + 1) (e := 9) (size := 1) W #[.string hd, .string t] 2 (HLO.out W hW).2 (by unfold maxLen; omega) rfl
      refine (specTexts_any _ [hd, t] (W.alloc (.cells #[.string hd, .string t] 9)) (rd_owns hl) (by simp)).mono ?_
      rintro e w' ⟨rfl, hb⟩
      rw [hbd, hhd]
      exact ⟨rfl, (hW.alloc (HLO.out W hW).2 _).trans (hb.mono (by have := (HLO.out W hW).2; rw [World.size_alloc]; omega))⟩
    have HW := Lib.hid hW1
    have x0 := HC.out _ (Below.refl _ _)
    rw [hW1] at hok x0
    obtain ⟨x0, x1, x2⟩ := x0
    have HE : Hid (asB (showL (k, a, t)) = asB (enc bd.size ++ byts bd ++ enc (digest bd).toNat)) := by show _ = _; rw [hbd]; rfl
    rw [HE.out]
    have hbs : bd.size ≤ 4018 := by
      obtain ⟨q1, q2, q3⟩ := noteB_parts hn
      rw [hbd]
      exact (body_is (by rcases q1 with rfl | rfl <;> exact ⟨by decide, by decide⟩) (by omega) q3).1
    have hdi := digest_in bd
    have hcat : Hid (∀ dg : Nat, asB (enc bd.size) ++ bd ++ asB (enc dg) = asB (enc bd.size ++ byts bd ++ enc dg)) := fun dg => by
      apply byts_inj
      rw [byts_two, byts_two, asB_byts _ (enc_bytes _), asB_byts _ (enc_bytes _), asB_byts]
      intro x hx
      rcases List.mem_append.1 hx with h | h
      · rcases List.mem_append.1 h with h | h
        · exact enc_bytes _ x h
        · exact byts_bytes _ x h
      · exact enc_bytes _ x h
    have HDG : Hid (∀ W, Calls Tryd.prog 30 #[.string bd] W fun e w' => e = .returned (.int .i64 (digest bd)) ∧ w' = W) := fun W => specDigest_any bd W (by omega)
    obtain ⟨dg, hdg⟩ : ∃ n : Nat, n = (digest bd).toNat := ⟨_, rfl⟩
    have hdg2 : digest bd = (dg : Int) := by omega
    rw [← hdg]
    rw [hdg2] at HDG
    have hdl : dg ≤ 1099511627776 := by omega
    have hA0 : (asB (enc bd.size)).size ≤ 6 := by rw [asB_size]; exact enc_len6 _ (by omega)
    have hA9 : (asB (enc dg)).size ≤ 6 := by rw [asB_size]; exact enc_len6 _ hdl
    have hA1 : ¬ (9223372036854775807 < (asB (enc bd.size)).size + bd.size) := by omega
    have hA3 : ¬ (9223372036854775807 < (asB (enc bd.size)).size + bd.size + (asB (enc dg)).size) := by omega
    have hA2 : ¬ (9223372036854775807 < (asB (enc bd.size) ++ bd).size + (asB (enc dg)).size) := by rw [ByteArray.size_append]; exact hA3
    clear hA0 hA9
    obtain ⟨X, hX⟩ : ∃ X, X = asB (enc bd.size) := ⟨_, rfl⟩
    obtain ⟨Y, hY⟩ : ∃ Y, Y = asB (enc dg) := ⟨_, rfl⟩
    have HNB : Hid (∀ (W : World) (m : Nat) (Z : ByteArray), Z = asB (enc m) → Below (w.heap.size + 1) W1 W → m ≤ 1099511627776 → Calls Tryd.prog 29 #[.int .i64 (m : Int)] W fun e w' => ∃ v, e = .returned v ∧ (Hid (Below (w.heap.size + 1) W1 w') ∧ Hid (Below W.heap.size W w')) ∧ Hid (∀ W', Below w'.heap.size w' W' → (convert 44 9 v).run Tryd.prog W' = .ok (.string Z) W') ∧ (convert 44 9 v).run Tryd.prog w' = .ok (.string Z) w') := fun W m Z hZ hW hm => by
      subst hZ
      refine (l1Number_any m W hm).mono ?_
      rintro e w' ⟨v, rfl, ho, hb⟩
      exact ⟨v, rfl, ⟨hW.trans (hb.mono (HLO.out W hW).2), hb⟩, fun W' h => str_own (owns_below ho h) (enc_bytes m), str_own ho (enc_bytes m)⟩
    have HN1 : Hid (∀ W, Below (w.heap.size + 1) W1 W → Calls Tryd.prog 29 #[.int .i64 (bd.size : Int)] W fun e w' => ∃ v, e = .returned v ∧ (Hid (Below (w.heap.size + 1) W1 w') ∧ Hid (Below W.heap.size W w')) ∧ Hid (∀ W', Below w'.heap.size w' W' → (convert 44 9 v).run Tryd.prog W' = .ok (.string X) W') ∧ (convert 44 9 v).run Tryd.prog w' = .ok (.string X) w') := fun W hW => HNB.out W bd.size X hX hW (by omega)
    have HN2 : Hid (∀ W, Below (w.heap.size + 1) W1 W → Calls Tryd.prog 29 #[.int .i64 (dg : Int)] W fun e w' => ∃ v, e = .returned v ∧ (Hid (Below (w.heap.size + 1) W1 w') ∧ Hid (Below W.heap.size W w')) ∧ Hid (∀ W', Below w'.heap.size w' W' → (convert 44 9 v).run Tryd.prog W' = .ok (.string Y) W') ∧ (convert 44 9 v).run Tryd.prog w' = .ok (.string Y) w') := fun W hW => HNB.out W dg Y hY hW hdl
    have HCAT : Hid (asB (enc bd.size ++ byts bd ++ enc dg) = X ++ bd ++ Y) := by
      have h9 := hcat.out dg
      rw [← hX, ← hY] at h9
      exact h9.symm
    rw [HCAT.out]
    rw [← hX] at hA1
    rw [← hX, ← hY] at hA2
    rw [← hX, ← hY] at hA3
    clear e hn hbox hs1 hb1 hW1 ht hhd hbd HE hdg hdg2 hdi hX hY HNB hcat HCAT hdl hbs
    go_enter Tryd.func17, Tryd.ntmps17
    go_wp2_with fail
    refine hok.mono ?_
    rintro e w2 ⟨rfl, hb2⟩
    have HB2 : Hid (Below (w.heap.size + 1) W1 w2) := by rw [HW.out]; exact hb2
    obtain ⟨a0, a1, a2⟩ := HC.out w2 HB2.out
    obtain ⟨b0, b1, b2⟩ := HC.out _ (HB2.out.alloc (HLO.out w2 HB2.out).2 (.cells #[.int .i64 k, .int .i64 a] 2))
    have hnu := HNU.out w2 HB2.out
    clear hok hb2 x0 x1 x2 HNU
    go_wp2_with fail
    go_region_law (first
      | (go_simp; go_at_call 27; refine htx.mono ?_; rintro e w4 ⟨rfl, HB4⟩)
      | (go_simp; go_at_call 28; refine hnu.mono ?_; rintro e w3 ⟨rfl, HB3⟩; obtain ⟨c0, c1, c2⟩ := HC.out w3 HB3.out; obtain ⟨d0, d1, d2⟩ := HC.out _ (HB3.out.alloc (HLO.out w3 HB3.out).2 (.cells #[.string hd, .string t] 9)); have htx := HTX.out w3 HB3.out))
    all_goals
      have HB5 := Lib.hid HB4.out
      have hn1 := HN1.out _ HB5.out.drew
      clear htx hnu HTX a0 a1 a2 b0 b1 b2 c0 c1 c2 d0 d1 d2 HC
      go_wp2
      go_region_law (first
        | (go_simp; go_at_call 29; refine hn2.mono ?_; rintro e w7 ⟨v7, rfl, ⟨HB7, hup⟩, HV7, hv7⟩; have hv5c := HV5.out w7 hup.out)
        | (go_simp; go_at_call 30; refine (HDG.out _).mono ?_; rintro e w6 ⟨rfl, rfl⟩; have hn2 := HN2.out _ HB6.out)
        | (go_simp; go_at_call 29; refine hn1.mono ?_; rintro e w5 ⟨v5, rfl, ⟨HB6, _⟩, HV5, hv5⟩))
      all_goals
        have HF := Lib.hid (HLO.out _ HB7.out).1
        clear HLO HN1 HN2 HDG
        go_wp2
        go_ret
        exact ⟨rfl, HF.out⟩
end Go.Proofs.YtfoncmeplofedaqDoor
