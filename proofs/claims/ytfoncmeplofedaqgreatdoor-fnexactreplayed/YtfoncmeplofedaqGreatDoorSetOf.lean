/- CONTRACT: the program's setOf: a set of the numbers of a row. How many it holds is told by uniqK (of each number the first). -/
import Derived.Test.YtfoncmeplofedaqGreatDoorNumAdd
namespace Go.Proofs.YtfoncmeplofedaqGreatDoor
open Go.RowKit Go.Maps
set_option linter.unusedVariables false
def uniqK : List Int → List Int → List Int
  | [], o => o
  | q :: cs, o => if q ∈ o then uniqK cs o else uniqK cs (o ++ [q])
theorem uniqK_old {q : Int} {cs o : List Int} (h : q ∈ o) : uniqK (q :: cs) o = uniqK cs o := by
  show (if q ∈ o then _ else _) = _
  rw [if_pos h]
theorem uniqK_new {q : Int} {cs o : List Int} (h : q ∉ o) : uniqK (q :: cs) o = uniqK cs (o ++ [q]) := by
  show (if q ∈ o then _ else _) = _
  rw [if_neg h]
theorem uniqK_at {c : List Int} {i : Nat} (h : i < c.length) : c.drop i = c.getD i 0 :: c.drop (i + 1) := by
  rw [List.drop_eq_getElem_cons h]
  simp [List.getD, h]
set_option maxHeartbeats 2000000 in
set_option maxRecDepth 100000 in
theorem setOf_any (vd : Value) (ds : List Int) (w : World) (hd : Rd w vd (cellsInt64S ds)) (hld : ds.length ≤ 4194304) (hdw : ∀ d ∈ ds, -9223372036854775808 ≤ d ∧ d ≤ 9223372036854775807) :
    Calls Tryz.prog 66 #[vd] w fun e w' => ∃ (D : DataW Unit), e = .returned (.map (some w.heap.size)) ∧ SetM w.heap.size ds.length D w' ∧ Has D ds ∧ Maps.size D = (uniqK ds []).length ∧ w.heap.size < w'.heap.size ∧ Below w.heap.size w w' := by
  have hmm := @run_makeMap Tryz.prog
  have hla : (cellsInt64S ds).length = ds.length := by simp
  have HDW : Hid (∀ j, j < ds.length → -9223372036854775808 ≤ ds.getD j 0 ∧ ds.getD j 0 ≤ 9223372036854775807) := fun j hj => by
    have e : ds.getD j 0 = ds[j] := by simp [List.getD, hj]
    rw [e]
    exact hdw _ (List.getElem_mem hj)
  have HDS : Hid (∀ j, j < ds.length → ds.take (j + 1) = ds.take j ++ [ds.getD j 0]) := fun j hj => by
    rw [List.take_succ_eq_append_getElem hj]
    simp [List.getD, hj]
  have HDE : Hid (ds.take ds.length = ds) := List.take_length
  have HR0 : Hid (uniqK (ds.drop 0) [] = uniqK ds []) := by show _ = _; rw [List.drop_zero]
  have HEND : Hid (∀ H R, uniqK (ds.drop ds.length) H = R → H = R) := fun H R h => by
    rw [List.drop_length] at h
    exact h
  have HOLD : Hid (∀ i H R, i < ds.length → ds.getD i 0 ∈ H → uniqK (ds.drop i) H = R → uniqK (ds.drop (i + 1)) H = R) := fun i H R hi hm h => by
    rw [uniqK_at hi, uniqK_old hm] at h
    exact h
  have HNEW : Hid (∀ i H R, i < ds.length → ds.getD i 0 ∉ H → uniqK (ds.drop i) H = R → uniqK (ds.drop (i + 1)) (H ++ [ds.getD i 0]) = R) := fun i H R hi hm h => by
    rw [uniqK_at hi, uniqK_new hm] at h
    exact h
  generalize uniqK ds [] = R0 at HR0 ⊢
  obtain ⟨ao, cap, hvd, hcap, hx⟩ := hd
  rw [hla] at hvd hcap
  have HX : Hid (0 < ds.length → ∃ b off, ao = some ⟨b, off, none⟩ ∧ b < w.heap.size ∧ ∀ j, j < ds.length → w.cell? ⟨b, off + j, none⟩ = some (.int .i64 (ds.getD j 0))) := fun h0 => by
    obtain ⟨b, off, h1, h2, h3⟩ := hx (fun h => by
      have h9 := congrArg List.length h
      rw [hla] at h9
      simp at h9
      rw [h9] at h0
      exact absurd h0 (Nat.lt_irrefl _))
    rw [hla] at h3
    exact ⟨b, off, h1, h2, fun j hj => (h3 j hj).trans (ints_get _ ds j hj)⟩
  have HHI : Hid (∀ (k : Nat) (D : DataW Unit), k = ds.length → Has D (ds.take k) → Has D ds) := fun k D hk h => by rw [hk, List.take_length] at h; exact h
  obtain ⟨m, hm⟩ : ∃ m, m = ds.length := ⟨_, rfl⟩
  rw [← hm] at hvd hcap hld HX HDW HDS HEND HOLD HNEW HHI ⊢
  clear hx hm hla hdw HDE
  have hB0 : Below w.heap.size w (w.alloc (.map #[] 0)) := (Below.refl _ _).alloc (Nat.le_refl _) _
  have hM0 : SetM w.heap.size 0 (.map []) (w.alloc (.map #[] 0)) := World.ownsMap_made _ _ _ _
  subst hvd
  go_enter Tryz.func66, Tryz.ntmps66
  go_wp2
  obtain ⟨bm, hbm⟩ : ∃ bm, bm = w.heap.size := ⟨_, rfl⟩
  rw [← hbm] at hM0 hB0 HX ⊢
  have HBM := Lib.hid hbm
  go_loopw [9] (fun i wr => ∃ (k : Nat) (D : DataW Unit) (H : List Int), k ≤ m ∧ i = .int .i64 k ∧ SetM bm k D wr ∧ bm + 1 ≤ wr.heap.size ∧ Hid (Has D (ds.take k)) ∧ Hid (Has D H) ∧ Hid (Maps.size D = H.length) ∧ Hid (uniqK (ds.drop k) H = R0) ∧ Below bm w wr) (fun i _ => m - (intOf i).toNat)
  case atStart => exact ⟨0, _, [], Nat.zero_le _, rfl, hM0, by rw [World.size_alloc]; omega, has_start, has_start, rfl, HR0, hB0⟩
  case round =>
    obtain ⟨k, D, H, hk, rfl, hm, hbz, hhas, hhh, hsz, hR, hb⟩ := hrel
    clear hB0 hM0 HR0 hbm
    by_cases hltk : k < m
    focus
      obtain ⟨b, off, rfl, hlt, hc⟩ := HX.out (by omega)
      have d0 := (hb.cell (p := ⟨b, off + k, none⟩) hlt).trans (hc k hltk)
      have hw64 := HDW.out k hltk
      have hstep := HDS.out k hltk
      have hhm : Hid (Has (D.put (.int .i64 (ds.getD k 0)) unitD) (ds.take (k + 1))) := by
        show Has _ _
        rw [hstep]
        exact has_more hhas.out (World.ownsMap.isMap hm) _
      have hnext : ∃ H2 : List Int, Has (D.put (.int .i64 (ds.getD k 0)) unitD) H2 ∧ Maps.size (D.put (.int .i64 (ds.getD k 0)) unitD) = H2.length ∧ uniqK (ds.drop (k + 1)) H2 = R0 := by
        have hh := hhh.out (ds.getD k 0)
        have hsp := size_put (hm.tidy lawK7) unitD (k := Lit.int .i64 (ds.getD k 0))
        by_cases hmem : ds.getD k 0 ∈ H
        · have hcn : H.contains (ds.getD k 0) = true := by simpa using hmem
          refine ⟨H, has_again hhh.out (World.ownsMap.isMap hm) hcn, ?_, HOLD.out k H R0 hltk hmem hR.out⟩
          rw [hsp, hh, hcn, if_pos rfl]
          exact hsz.out
        · have hcn : H.contains (ds.getD k 0) = false := by
            cases e : H.contains (ds.getD k 0) with
            | false => rfl
            | true => exact absurd (by simpa using e) hmem
          refine ⟨H ++ [ds.getD k 0], has_more hhh.out (World.ownsMap.isMap hm) _, ?_, HNEW.out k H R0 hltk hmem hR.out⟩
          rw [hsp, hh, hcn]
          simp [hsz.out]
      obtain ⟨H2, h1, h2, h3⟩ := hnext
      have HH1 := Lib.hid h1
      have HH2 := Lib.hid h2
      have HH3 := Lib.hid h3
      clear h1 h2 h3
      obtain ⟨x, hx⟩ : ∃ x, x = ds.getD k 0 := ⟨_, rfl⟩
      rw [← hx] at d0 hw64 hhm HH1 HH2
      clear hx hc hstep hhas hhh hsz hR
      have hcall := add_any bm k D x wr hw64 hm (by omega)
      go_wp2_with fail
      refine hcall.mono ?_
      rintro e w7 ⟨rfl, hM7, hg7⟩
      have hB7 : Below bm w w7 := hb.grown hg7 (by omega) (fun k hk => by cases hk; exact Nat.le_refl _)
      have hz7 := hg7.size
      clear hcall hg7 hm hb d0
      go_wp2
      go_roundw
      case rel => exact ⟨k + 1, _, H2, by omega, by go_num, hM7, by omega, hhm, HH1, HH2, HH3, hB7⟩
      case measure => simp [intOf]; omega
    have hkm : k = m := by omega
    have HHD := Lib.hid (HHI.out k D hkm hhas.out)
    have HSZ : Hid (Maps.size D = R0.length) := by
      show _ = _
      have h9 := hR.out
      rw [hkm] at h9
      rw [hsz.out, HEND.out H R0 h9]
    have hMM : SetM bm m D wr := by rw [← hkm]; exact hm
    clear hR HEND HOLD HNEW hhas hhh hsz HHI hkm hm
    go_wp2
    go_ret
    have hbe := HBM.out
    exact ⟨D, by rw [← hbe]; rfl, by rw [← hbe]; exact hMM, HHD.out, HSZ.out, by omega, by rw [← hbe]; exact hb⟩
end Go.Proofs.YtfoncmeplofedaqGreatDoor
