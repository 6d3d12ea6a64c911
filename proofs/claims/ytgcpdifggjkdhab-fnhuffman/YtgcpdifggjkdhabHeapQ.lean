/- CONTRACTS: container/heap's Push and Pop, put, take. -/
import Derived.Test.YtgcpdifggjkdhabHeapD
import Derived.Laws.Rows
namespace Go.Proofs.Ytgcpdifggjkdhab
open Go.RowKit
set_option linter.unusedVariables false
theorem HAt.slice {Bg : Nat} {hs : List It} {w : World} (h : HAt Bg hs w) : ∃ ao cap, w.heap[Bg]? = some (.cells #[.slice ao hs.length cap] 69 (0, 0)) := by
  obtain ⟨v, h1, h2⟩ := h
  rcases h2.2 with ⟨rfl, h0⟩ | ⟨g, cap, cur, rfl, _⟩
  · rw [h0]; exact ⟨_, _, h1⟩
  · exact ⟨_, _, h1⟩
set_option maxRecDepth 100000 in
theorem len5_any (ao : Option Addr) (n cap : Nat) (hn : n ≤ 1000) (w : World) : Calls Try.prog 143 #[.slice ao n cap] w fun e w' => e = .returned (.int .i64 (n : Int)) ∧ Below w.heap.size w w' := by
  have hb := Below.refl w.heap.size w
  go_enter Try.func143, Try.ntmps143
  go_wp2
  go_ret
  exact ⟨rfl, hb⟩
theorem lenH (Bg n : Nat) (hs : List It) (w : World) (h : HGo Bg n hs w) (hn : n ≤ 1000) :
    ∃ v, (method 261 111 (.pointer (some ⟨Bg, 0, none⟩)) "Len").run Try.prog w = .ok (143, v) w ∧ Calls Try.prog 143 #[v] w fun e w' => e = .returned (.int .i64 (n : Int)) ∧ HGo Bg n hs w' ∧ Fr2 Bg w w' := by
  obtain ⟨ha, rfl⟩ := h
  obtain ⟨ao, cap, hb⟩ := ha.slice
  refine ⟨_, meth_len Bg w _ _ _ hb, (len5_any ao hs.length cap hn w).mono ?_⟩
  rintro e w' ⟨rfl, hb2⟩
  exact ⟨rfl, ⟨ha.below hb2, rfl⟩, fr2_below hb2 ha.lt⟩
set_option maxHeartbeats 1000000 in
set_option maxRecDepth 100000 in
theorem Push5_any (Bg n : Nat) (hs : List It) (x : It) (w : World) (h : HGo Bg n hs w) (hh : HpI hs n) (hn : n ≤ 900) :
    Calls Try.prog 95 #[hpV Bg, .iface 73 (itV x)] w fun e w' => e = .returned (.tuple #[]) ∧ ∃ hs', HGo Bg (n + 1) hs' w' ∧ HpI hs' (n + 1) ∧ hs'.Perm (x :: hs) ∧ Fr Bg w w' := by
  obtain ⟨ha, hl⟩ := h
  have hpu := meth_push ⟨Bg, 0, none⟩ w
  have hcp := hpush_any Bg hs x w ha (by omega)
  have hst : Hid (UpI (hs ++ [x]) n (n + 1)) := by
    have h2 := UpI.start (x := x) (hs := hs) (by rw [hl]; exact hh)
    rw [List.length_append, hl] at h2
    exact h2
  have HL := Lib.hid hl
  obtain ⟨xv, hxv⟩ : ∃ xv, xv = itV x := ⟨_, rfl⟩
  rw [← hxv] at hcp ⊢
  have hd : ((n + 1 : Nat) : Int) - 1 = (n : Int) := by omega
  clear hl hh ha hxv
  go_enter Try.func95, Try.ntmps95
  go_wp2_with fail
  refine hcp.mono ?_
  rintro e w2 ⟨rfl, ha2, hf2⟩
  have HA2 := Lib.hid ha2
  have hg2 : HGo Bg (n + 1) (hs ++ [x]) w2 := ⟨ha2, by rw [List.length_append, HL.out]; rfl⟩
  obtain ⟨vl, hml, hcl⟩ := lenH Bg (n + 1) _ w2 hg2 (by omega)
  obtain ⟨m, hm⟩ : ∃ m, m = n + 1 := ⟨_, rfl⟩
  have hnm : n < m := by omega
  have hm9 : m ≤ 901 := by omega
  rw [← hm] at hcl hd
  have HM := Lib.hid hm
  clear hpu hcp ha2 hm
  go_wp2_with fail
  refine hcl.mono ?_
  rintro e w3 ⟨rfl, hg3, hf3'⟩
  have hf3 := hf3'.fr HA2.out
  clear hf3'
  have hcu := up5_any Bg m _ w3 hg3 (by omega) n (by omega) (by rw [HM.out]; exact hst.out)
  clear hml hcl hg3 hg2
  go_wp2_with fail
  refine hcu.mono ?_
  rintro e w4 ⟨rfl, hs', hg4, hh4, hp4, hf4⟩
  have HR : Hid (∃ hs', HGo Bg (n + 1) hs' w4 ∧ HpI hs' (n + 1) ∧ hs'.Perm (x :: hs) ∧ Fr Bg w w4) := ⟨hs', by rw [← HM.out]; exact hg4, by rw [← HM.out]; exact hh4, hp4.trans (List.perm_append_comm.trans (List.Perm.refl _)), (hf2.trans hf3).trans hf4⟩
  clear hcu hg4 hh4 hp4
  go_wp2
  go_end0
  exact ⟨rfl, HR.out⟩
set_option maxHeartbeats 1000000 in
set_option maxRecDepth 100000 in
theorem Pop5_any (Bg n : Nat) (hs : List It) (w : World) (h : HGo Bg (n + 1) hs w) (hh : HpI hs (n + 1)) (hn : n ≤ 900) :
    Calls Try.prog 96 #[hpV Bg] w fun e w' => ∃ x, e = .returned (.iface 73 (itV x)) ∧ ∃ hs', HGo Bg n hs' w' ∧ HpI hs' n ∧ (x :: hs').Perm hs ∧ (∀ y ∈ hs, ¬ LtI y x) ∧ Fr2 Bg w w' := by
  have hl := h.len
  obtain ⟨vl, hml, hcl⟩ := lenH Bg (n + 1) _ w h (by omega)
  have hdn : Hid (DnI (swI hs 0 n) 0 n) := DnI.start hh hl
  have hlo : Hid (∀ y ∈ hs, ¬ LtI y (atI hs 0)) := fun y hy => by
    obtain ⟨k, hk, rfl⟩ := List.mem_iff_getElem.1 hy
    have := hh.least k (by omega)
    simpa [atI, List.getD, hk] using this
  have hpm : Hid ((swI hs 0 n).Perm hs ∧ atI (swI hs 0 n) n = atI hs 0) := ⟨swI_perm (by omega) (by omega), by rw [swI_at (by omega) (by omega), if_pos rfl]⟩
  have HL := Lib.hid hl
  have hd : ((n + 1 : Nat) : Int) - 1 = (n : Int) := by omega
  obtain ⟨m, hm⟩ : ∃ m, m = n + 1 := ⟨_, rfl⟩
  have hnm : n < m := by omega
  have hm9 : m ≤ 901 := by omega
  rw [← hm] at hcl hd h
  have HM := Lib.hid hm
  clear hm hl hh
  go_enter Try.func96, Try.ntmps96
  go_wp2_with fail
  refine hcl.mono ?_
  rintro e w2 ⟨rfl, hg2, hf2⟩
  obtain ⟨vs, hms, hcs⟩ := swapH Bg m hs w2 hg2 (by omega) 0 n (by omega) (by omega)
  clear hml hcl h
  go_wp2_with fail
  refine hcs.mono ?_
  rintro e w3 ⟨rfl, hg3, hf3⟩
  have hcd := down5_any Bg m n _ w3 hg3 (by omega) (by omega) 0 (by omega) hdn.out
  clear hms hcs hg2 hg3
  go_wp2_with fail
  refine hcd.mono ?_
  rintro e w4 ⟨⟨bb, rfl⟩, hs', hg4, hh4, hp4, hk4, hf4⟩
  obtain ⟨hs2, x, he⟩ : ∃ hs2 x, hs' = hs2 ++ [x] := by
    have h2 := hg4.len
    have h3 : hs' ≠ [] := by intro e0; subst e0; simp at h2; omega
    exact ⟨hs'.dropLast, hs'.getLast h3, (List.dropLast_concat_getLast h3).symm⟩
  subst he
  have hl2 : hs2.length = n := by have := hg4.len; have e3 := HM.out; simp at this; omega
  have hcp := hpop_any Bg hs2 x w4 hg4.at_ (by omega)
  have hpo := meth_pop ⟨Bg, 0, none⟩ w4
  have hx : x = atI hs 0 := by
    have h2 := hk4 n (Nat.le_refl _)
    rw [hpm.out.2] at h2
    rw [← h2, ← hl2]
    simp [atI, List.getD]
  have HX : Hid ((∀ y ∈ hs, ¬ LtI y x) ∧ (x :: hs2).Perm hs ∧ HpI hs2 n) := by
    refine ⟨by rw [hx]; exact hlo.out, (List.perm_append_comm (l₁ := [x]) (l₂ := hs2)).trans (hp4.trans hpm.out.1), hh4.mono (Nat.le_refl _) (fun k hk => ?_)⟩
    simp [atI, List.getD, List.getElem?_append_left (show k < hs2.length by omega)]
  have HF4 : Hid (Fr2 Bg w w4) := (((hf2.trans hf3).trans hf4))
  have HL2 := Lib.hid hl2
  obtain ⟨xv, hxv⟩ : ∃ xv, xv = itV x := ⟨_, rfl⟩
  rw [← hxv] at hcp
  have HXV := Lib.hid hxv
  clear hcd hk4 hh4 hp4 hg4 hx hl2 hxv hf2 hf3 hf4
  go_wp2_with fail
  refine hcp.mono ?_
  rintro e w5 ⟨rfl, ha5, hf5⟩
  have HA5 := Lib.hid ha5
  clear hcp hpo ha5
  go_wp2
  go_ret
  exact ⟨x, by rw [HXV.out]; rfl, hs2, ⟨HA5.out, HL2.out⟩, HX.out.2.2, HX.out.2.1, HX.out.1, HF4.out.trans hf5⟩
set_option maxHeartbeats 1000000 in
set_option maxRecDepth 100000 in
theorem put5_any (Bg n : Nat) (hs : List It) (x : It) (w : World) (h : HGo Bg n hs w) (hh : HpI hs n) (hn : n ≤ 900) :
    Calls Try.prog 63 #[.pointer (some ⟨Bg, 0, none⟩), itV x] w fun e w' => e = .returned (.tuple #[]) ∧ ∃ hs', HGo Bg (n + 1) hs' w' ∧ HpI hs' (n + 1) ∧ hs'.Perm (x :: hs) ∧ Fr Bg w w' := by
  obtain ⟨c, f, v1, v2, v3⟩ := x
  have hba := (Below.refl w.heap.size w).alloc (Nat.le_refl _) (.cells #[.int .i64 (c : Int), .int .i64 (f : Int), .slice v1 v2 v3] 73)
  have hbd : Below w.heap.size w (w.alloc (.cells #[.int .i64 (c : Int), .int .i64 (f : Int), .slice v1 v2 v3] 73)).drew := hba.drew
  have hlt := h.at_.lt
  have hc := Push5_any Bg n hs (c, f, v1, v2, v3) _ ⟨h.at_.below hba, h.len⟩ hh hn
  have hcd := Push5_any Bg n hs (c, f, v1, v2, v3) _ ⟨h.at_.below hbd, h.len⟩ hh hn
  have hF := fr_below hba (show Bg ≤ w.heap.size by omega)
  have hFd := fr_below hbd (show Bg ≤ w.heap.size by omega)
  have HF := Lib.hid hF
  have HFD := Lib.hid hFd
  clear hba hbd hF hFd h hh
  show Calls Try.prog 63 #[.pointer (some ⟨Bg, 0, none⟩), .agg #[.int .i64 (c : Int), .int .i64 (f : Int), .slice v1 v2 v3]] w _
  go_enter Try.func63, Try.ntmps63
  go_wp2_with fail
  refine hc.mono ?_
  rintro e w3 ⟨rfl, hs', hg4, hh4, hp4, hf4⟩
  have HR : Hid (∃ hs', HGo Bg (n + 1) hs' w3 ∧ HpI hs' (n + 1) ∧ hs'.Perm ((c, f, v1, v2, v3) :: hs) ∧ Fr Bg w w3) := ⟨hs', hg4, hh4, hp4, HF.out.trans hf4⟩
  clear hc hcd hg4 hh4 hp4 hf4
  go_wp2
  go_end0
  exact ⟨rfl, HR.out⟩
theorem HAt.store {Bg : Nat} {hs : List It} {w : World} (h : HAt Bg hs w) (B i : Nat) (u : Value) (h1 : B ≠ Bg) (h2 : rowOf Bg w ≠ some B) : HAt Bg hs (w.setCell ⟨B, i, none⟩ u) ∧ rowOf Bg (w.setCell ⟨B, i, none⟩ u) = rowOf Bg w := by
  obtain ⟨v, hb, ho⟩ := h
  have hb2 : (w.setCell ⟨B, i, none⟩ u).heap[Bg]? = some (.cells #[v] 69 (0, 0)) := (Below.heap_setCell _ _ _ _ (fun e => h1 e.symm)).trans hb
  rw [rowOf_box hb] at h2
  refine ⟨⟨v, hb2, ho.kept (row := some B) ⟨rfl, rfl, rfl, by simp [World.setCell], fun k _ hk => Below.heap_setCell _ _ _ _ (fun e => hk (by simp [e]))⟩ (Or.inr h2)⟩, by rw [rowOf_box hb, rowOf_box hb2]⟩
theorem HAt.rowlt {Bg : Nat} {hs : List It} {w : World} (h : HAt Bg hs w) (k : Nat) (hk : rowOf Bg w = some k) : k < w.heap.size := by
  obtain ⟨v, hb, ho⟩ := h
  rw [rowOf_box hb] at hk
  rcases ho.2 with ⟨rfl, _⟩ | ⟨g, cap, cur, rfl, hg, hh, _⟩
  · cases hk
  · cases hk; exact (Array.getElem?_eq_some_iff.1 hh).1
set_option maxHeartbeats 1000000 in
set_option maxRecDepth 100000 in
theorem take5_any (Bg n : Nat) (hs : List It) (w : World) (h : HGo Bg (n + 1) hs w) (hh : HpI hs (n + 1)) (hn : n ≤ 900) :
    Calls Try.prog 64 #[.pointer (some ⟨Bg, 0, none⟩)] w fun e w' => ∃ x, e = .returned (itV x) ∧ ∃ hs', HGo Bg n hs' w' ∧ HpI hs' n ∧ (x :: hs').Perm hs ∧ (∀ y ∈ hs, ¬ LtI y x) ∧ Fr Bg w w' := by
  have hba := (Below.refl w.heap.size w).alloc (Nat.le_refl _) (.cells #[.int .i64 0, .int .i64 0, .slice none 0 0] 73)
  have hlt := h.at_.lt
  have hca := Pop5_any Bg n hs _ ⟨h.at_.below hba, h.len⟩ hh hn
  have hro : Hid (rowOf Bg (w.alloc (.cells #[.int .i64 0, .int .i64 0, .slice none 0 0] 73)) ≠ some w.heap.size) := fun e => by
    have e2 : rowOf Bg (w.alloc (.cells #[.int .i64 0, .int .i64 0, .slice none 0 0] 73)) = rowOf Bg w := by unfold rowOf; rw [hba.block Bg hlt]
    rw [e2] at e
    exact Nat.lt_irrefl _ (h.at_.rowlt _ e)
  have HBA := Lib.hid hba
  have hat := Lib.hid (h.at_.below hba)
  clear h hba
  go_enter Try.func64, Try.ntmps64
  go_wp2_with fail
  refine hca.mono ?_
  rintro e w3 ⟨x, rfl, hs', hg3, hh3, hp3, hl3, hf3⟩
  have hsz : (w.alloc (.cells #[.int .i64 0, .int .i64 0, .slice none 0 0] 73)).heap.size = w.heap.size + 1 := by show (w.heap.push _).size = _; rw [Array.size_push]
  have hz : w3.heap[w.heap.size]? = some (.cells #[.int .i64 0, .int .i64 0, .slice none 0 0] 73 (0, 0)) := (hf3.kh w.heap.size (by omega) (by omega) hro.out).trans (heap_alloc_new w _)
  obtain ⟨c, f, v1, v2, v3⟩ := x
  have hst := fun u0 u1 u2 => (show Hid (HGo Bg n hs' (((w3.setCell ⟨w.heap.size, 0, none⟩ u0).setCell ⟨w.heap.size, 1, none⟩ u1).setCell ⟨w.heap.size, 2, none⟩ u2) ∧ Fr Bg w (((w3.setCell ⟨w.heap.size, 0, none⟩ u0).setCell ⟨w.heap.size, 1, none⟩ u1).setCell ⟨w.heap.size, 2, none⟩ u2)) from by
    have hr3 : rowOf Bg w3 ≠ some w.heap.size := by rw [hf3.own]; exact hro.out
    have a1 := hg3.at_.store w.heap.size 0 u0 (by omega) hr3
    have a2 := a1.1.store w.heap.size 1 u1 (by omega) (by rw [a1.2]; exact hr3)
    have a3 := a2.1.store w.heap.size 2 u2 (by omega) (by rw [a2.2, a1.2]; exact hr3)
    have b3 : Below Bg w w3 := (HBA.out.mono (Nat.le_of_lt hlt)).trans hf3.bel
    refine ⟨⟨a3.1, hg3.len⟩, (((b3.setCell (p := ⟨w.heap.size, 0, none⟩) (Nat.le_of_lt hlt) u0).setCell (p := ⟨w.heap.size, 1, none⟩) (Nat.le_of_lt hlt) u1).setCell (p := ⟨w.heap.size, 2, none⟩) (Nat.le_of_lt hlt) u2), fun k k1 k2 k3 => ?_⟩
    rw [Below.heap_setCell _ _ _ _ (by show k ≠ w.heap.size; omega), Below.heap_setCell _ _ _ _ (by show k ≠ w.heap.size; omega), Below.heap_setCell _ _ _ _ (by show k ≠ w.heap.size; omega)]
    have e5 := HBA.out.block k k1
    rw [← e5] at k3 ⊢
    exact (hf3.fr (hs := hs) hat.out).kh k (by omega) k2 k3)
  have HR : Hid (HpI hs' n ∧ (((c, f, v1, v2, v3) : It) :: hs').Perm hs ∧ (∀ y ∈ hs, ¬ LtI y (c, f, v1, v2, v3))) := ⟨hh3, hp3, hl3⟩
  have k0 := cell_of_row w3 w.heap.size 0 _ _ (0, 0) hz
  have k1 := cell_of_row w3 w.heap.size 1 _ _ (0, 0) hz
  have k2 := cell_of_row w3 w.heap.size 2 _ _ (0, 0) hz
  have f0 := Lib.frozen_of_heap hz 0
  have f1 := Lib.frozen_of_heap hz 1
  have f2 := Lib.frozen_of_heap hz 2
  have hta : ∀ W : World, (Instr.typeAssert (.iface 73 (.agg #[.int .i64 (c : Int), .int .i64 (f : Int), .slice v1 v2 v3])) 20 73 false).run Try.prog W = .ok (.agg #[.int .i64 (c : Int), .int .i64 (f : Int), .slice v1 v2 v3]) W := fun W => rfl
  have hres : Hid ((((w3.setCell ⟨w.heap.size, 0, none⟩ (.int .i64 (c : Int))).setCell ⟨w.heap.size, 1, none⟩ (.int .i64 (f : Int))).setCell ⟨w.heap.size, 2, none⟩ (.slice v1 v2 v3)).heap[w.heap.size]? = some (.cells #[.int .i64 (c : Int), .int .i64 (f : Int), .slice v1 v2 v3] 73 (0, 0))) := by
    show _ = _
    simp [World.setCell, Array.getElem?_modify, hz]
  have hsi : Hid ((Try.prog.info? 73).map (·.size) = some 3) := by
    show _ = _
    kernel_rfl
  unfold itV
  clear hca hg3 hh3 hp3 hl3 hf3 hz hsz
  go_wp2
  refine bodyPost_ret (results_cell_row (by rfl) _ _ w.heap.size 73 #[.int .i64 (c : Int), .int .i64 (f : Int), .slice v1 v2 v3] (0, 0) _ rfl hres.out Try.underlying73 rfl hsi.out) rfl ?_
  exact ⟨(c, f, v1, v2, v3), rfl, hs', (hst _ _ _).out.1, HR.out.1, HR.out.2.1, HR.out.2.2, (hst _ _ _).out.2⟩
end Go.Proofs.Ytgcpdifggjkdhab
