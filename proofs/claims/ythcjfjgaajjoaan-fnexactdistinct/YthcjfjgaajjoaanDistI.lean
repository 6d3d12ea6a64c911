/- CONTRACT: the program's Distinct (a set that grows). -/
import Derived.Test.YthcjfjgaajjoaanNumAdd
import Derived.Test.YthcjfjgaajjoaanBelT
namespace Go.Proofs.Ythcjfjgaajjoaan
open Go.RowKit Go.Maps
set_option linter.unusedVariables false
set_option maxHeartbeats 2000000 in
set_option maxRecDepth 100000 in
theorem implDistinct_any (va : Value) (c : List Int) (w : World) (ha : Rd w va (cellsInt64S c)) (hw64 : ∀ z ∈ c, In64 z) :
    Calls Try.prog 22 #[va] w fun e w' => e = .returned (.int .i64 (distT c)) ∧ Below w.heap.size w w' := by
  have hmm := @run_makeMap Try.prog
  have hla : (cellsInt64S c).length = c.length := by simp
  obtain ⟨ao, cap, hv, hcap, hx⟩ := ha
  rw [hla] at hv hcap hx
  subst hv
  have HX : Hid (∀ j, j < c.length → ∃ b off, ao = some ⟨b, off, none⟩ ∧ b < w.heap.size ∧ w.cell? ⟨b, off + j, none⟩ = some (.int .i64 (c.getD j 0))) := fun j hj => by
    obtain ⟨b, off, h1, h2, h3⟩ := hx (by intro h; rw [h] at hla; simp at hla; omega)
    exact ⟨b, off, h1, h2, (h3 j hj).trans (ints_get _ c j hj)⟩
  have HW : Hid (∀ j, j < c.length → In64 (c.getD j 0)) := fun j hj => by
    have e : c.getD j 0 = c[j] := by simp [List.getD, hj]
    rw [e]
    exact hw64 _ (List.getElem_mem hj)
  clear hx hla hw64
  by_cases hl : 60 < c.length
  focus
    have hI : (60 : Int) < (c.length : Int) := by omega
    have e : distT c = -1 := by unfold distT; rw [if_neg (by omega)]
    rw [e]
    clear HX HW e
    go_enter Try.func22, Try.ntmps22
    go_wp2
    go_ret
    exact ⟨rfl, Below.refl _ _⟩
  have hI : ¬ (60 : Int) < (c.length : Int) := by omega
  have e : distT c = ((distK c []).length : Int) := by unfold distT; rw [if_pos (by omega)]
  rw [e]
  clear e
  have HR0 : Hid (distK (c.drop 0) [] = distK c []) := by show _ = _; rw [List.drop_zero]
  have HEND : Hid (∀ H R, distK (c.drop c.length) H = R → H = R) := fun H R h => by
    rw [List.drop_length] at h
    exact h
  have HOLD : Hid (∀ i H R, i < c.length → c.getD i 0 ∈ H → distK (c.drop i) H = R → distK (c.drop (i + 1)) H = R) := fun i H R hi hm h => by
    rw [drop_at hi, distK_old hm] at h
    exact h
  have HNEW : Hid (∀ i H R, i < c.length → c.getD i 0 ∉ H → distK (c.drop i) H = R → distK (c.drop (i + 1)) (H ++ [c.getD i 0]) = R) := fun i H R hi hm h => by
    rw [drop_at hi, distK_new hm] at h
    exact h
  generalize distK c [] = R0 at HR0 ⊢
  obtain ⟨n, hn⟩ : ∃ n, n = c.length := ⟨_, rfl⟩
  rw [← hn] at hl hI HX HW HEND HOLD HNEW hcap ⊢
  clear hn
  have hB0 : Below w.heap.size w (w.alloc (.map #[] 0)) := (Below.refl _ _).alloc (Nat.le_refl _) _
  have hM0 : SetM w.heap.size 0 (.map []) (w.alloc (.map #[] 0)) := World.ownsMap_made _ _ _ _
  go_enter Try.func22, Try.ntmps22
  go_wp2
  obtain ⟨bm, hbm⟩ : ∃ bm, bm = w.heap.size := ⟨_, rfl⟩
  rw [← hbm] at hM0 hB0 HX ⊢
  have HBM := Lib.hid hbm
  go_loopw [12] (fun i wr => ∃ (k : Nat) (D : DataW Unit) (H : List Int), k ≤ n ∧ i = .int .i64 k ∧ SetM bm k D wr ∧ bm + 1 ≤ wr.heap.size ∧ Hid (Has D H) ∧ Hid (Maps.size D = H.length) ∧ H.length ≤ k ∧ Hid (distK (c.drop k) H = R0) ∧ Below bm w wr) (fun i _ => n - (intOf i).toNat)
  case atStart => exact ⟨0, _, [], Nat.zero_le _, rfl, hM0, by rw [World.size_alloc]; omega, has_start, rfl, Nat.zero_le _, HR0, hB0⟩
  case round =>
    obtain ⟨k, D, H, hk, rfl, hm, hbz, hhas, hsz, hHl, hR, hb⟩ := hrel
    clear hB0 hM0 HR0 hbm
    by_cases hltk : k < n
    focus
      obtain ⟨b, off, rfl, hlt, hc⟩ := HX.out k hltk
      have d0 := (hb.cell (p := ⟨b, off + k, none⟩) hlt).trans hc
      have hw64 := HW.out k hltk
      obtain ⟨q, hq⟩ : ∃ q, q = c.getD k 0 := ⟨_, rfl⟩
      have hnext : ∃ H2 : List Int, Has (D.put (.int .i64 q) unitD) H2 ∧ Maps.size (D.put (.int .i64 q) unitD) = H2.length ∧ H2.length ≤ k + 1 ∧ distK (c.drop (k + 1)) H2 = R0 := by
        have hh := hhas.out q
        have hsp := size_put (hm.tidy lawK7) unitD (k := Lit.int .i64 q)
        by_cases hmem : q ∈ H
        · have hcn : H.contains q = true := by simpa using hmem
          refine ⟨H, has_again hhas.out (World.ownsMap.isMap hm) hcn, ?_, by omega, HOLD.out k H R0 hltk (hq ▸ hmem) hR.out⟩
          rw [hsp, hh, hcn, if_pos rfl]
          exact hsz.out
        · have hcn : H.contains q = false := by
            cases e : H.contains q with
            | false => rfl
            | true => exact absurd (by simpa using e) hmem
          refine ⟨H ++ [q], has_more hhas.out (World.ownsMap.isMap hm) q, ?_, by simp; omega, by rw [hq] at hmem ⊢; exact HNEW.out k H R0 hltk hmem hR.out⟩
          rw [hsp, hh, hcn]
          simp [hsz.out]
      rw [← hq] at d0 hw64
      obtain ⟨H2, h1, h2, h3, h4⟩ := hnext
      have HH := Lib.hid h1
      have HS := Lib.hid h2
      have HR2 := Lib.hid h4
      clear hq hc hhas hsz hR h1 h2 h4
      have hcall := add_any bm k D q wr hw64 hm (by omega)
      go_wp2_with fail
      refine hcall.mono ?_
      rintro e w7 ⟨rfl, hM7, hg7⟩
      have hB7 : Below bm w w7 := hb.grown hg7 (by omega) (fun k hk => by cases hk; exact Nat.le_refl _)
      have hz7 := hg7.size
      clear hcall hg7 hm hb d0
      go_wp2
      go_roundw
      case rel => exact ⟨k + 1, _, H2, by omega, by go_num, hM7, by omega, HH, HS, h3, HR2, hB7⟩
      case measure => simp [intOf]; omega
    have HE : Hid (H.length = R0.length) := by
      show _ = _
      have h9 := hR.out
      rw [show k = n by omega] at h9
      rw [HEND.out H R0 h9]
    have HSZ : Hid (Maps.size D = R0.length) := by show _ = _; rw [hsz.out, HE.out]
    clear hR HEND HOLD HNEW hhas hsz HE
    go_wp2_with (at_len; refine wpList_len_own _ rfl _ 61 rfl 2 57 Try.underlying61 _ bm _ _ rfl hm ?_)
    go_wp2
    go_ret
    exact ⟨by rw [HSZ.out]; rfl, by have h9 := hb; rw [HBM.out] at h9; exact h9⟩
end Go.Proofs.Ythcjfjgaajjoaan
