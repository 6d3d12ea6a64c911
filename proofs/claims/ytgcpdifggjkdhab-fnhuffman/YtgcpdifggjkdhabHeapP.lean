/- CONTRACTS: the heap's Push and Pop. -/
import Derived.Test.YtgcpdifggjkdhabHeapL
import Derived.Test.YtgcpdifggjkdhabSteps
import Derived.WalkSmall
namespace Go.Proofs.Ytgcpdifggjkdhab
open Go.RowKit
set_option linter.unusedVariables false
/-- the heap, boxed in block Bg, its rows behind it -/
def HAt (Bg : Nat) (hs : List It) (w : World) : Prop := ∃ v, w.heap[Bg]? = some (.cells #[v] 69 (0, 0)) ∧ w.ownsRow (Bg + 1) 73 3 v hs.length (flatI hs)
/-- all below it stays, and behind it whatever is no row of groups -/
structure Fr (Bg : Nat) (w w' : World) : Prop where
  bel : Below Bg w w'
  kh : ∀ k, k < w.heap.size → k ≠ Bg → (∀ cs fr, w.heap[k]? ≠ some (.cells cs 73 fr)) → w'.heap[k]? = w.heap[k]?
theorem Fr.refl (Bg : Nat) (w : World) : Fr Bg w w := ⟨Below.refl _ _, fun _ _ _ _ => rfl⟩
theorem Fr.trans {Bg : Nat} {w w' w'' : World} (h : Fr Bg w w') (k : Fr Bg w' w'') : Fr Bg w w'' := ⟨h.bel.trans k.bel, fun q h1 h2 h3 => by
  have e := h.kh q h1 h2 h3
  rw [k.kh q (Nat.lt_of_lt_of_le h1 h.bel.size) h2 (by rw [e]; exact h3), e]⟩
theorem fr_below {Bg : Nat} {w w' : World} (h : Below w.heap.size w w') (hB : Bg ≤ w.heap.size) : Fr Bg w w' := ⟨h.mono hB, fun q h1 _ _ => h.block q h1⟩
/-- the block of the heap's row -/
def rowOf (Bg : Nat) (w : World) : Option Nat := match w.heap[Bg]? with
  | some (.cells cs _ _) => (cs.getD 0 .nilIface).ownBlock
  | _ => none
theorem rowOf_box {Bg : Nat} {w : World} {v : Value} {t : TypeId} {fr : Nat × Nat} (h : w.heap[Bg]? = some (.cells #[v] t fr)) : rowOf Bg w = v.ownBlock := by unfold rowOf; rw [h]; rfl
/-- all stays but the box and the row, and the row stays where it is -/
structure Fr2 (Bg : Nat) (w w' : World) : Prop where
  bel : Below Bg w w'
  kh : ∀ k, k < w.heap.size → k ≠ Bg → rowOf Bg w ≠ some k → w'.heap[k]? = w.heap[k]?
  own : rowOf Bg w' = rowOf Bg w
theorem Fr2.refl (Bg : Nat) (w : World) : Fr2 Bg w w := ⟨Below.refl _ _, fun _ _ _ _ => rfl, rfl⟩
theorem Fr2.trans {Bg : Nat} {w w' w'' : World} (h : Fr2 Bg w w') (k : Fr2 Bg w' w'') : Fr2 Bg w w'' := ⟨h.bel.trans k.bel, fun q h1 h2 h3 => (k.kh q (Nat.lt_of_lt_of_le h1 h.bel.size) h2 (by rw [h.own]; exact h3)).trans (h.kh q h1 h2 h3), k.own.trans h.own⟩
theorem fr2_below {Bg : Nat} {w w' : World} (h : Below w.heap.size w w') (hB : Bg < w.heap.size) : Fr2 Bg w w' := ⟨h.mono (Nat.le_of_lt hB), fun q h1 _ _ => h.block q h1, by unfold rowOf; rw [h.block Bg hB]⟩
theorem Fr2.fr {Bg : Nat} {hs : List It} {w w' : World} (h : Fr2 Bg w w') (ha : HAt Bg hs w) : Fr Bg w w' := ⟨h.bel, fun k h1 h2 h3 => h.kh k h1 h2 (fun e => by
  obtain ⟨v, hb, ho⟩ := ha
  rw [rowOf_box hb] at e
  rcases ho.2 with ⟨rfl, _⟩ | ⟨g, cap, cur, rfl, hg, hh, _⟩
  · cases e
  · cases e; exact h3 _ _ hh)⟩
theorem HAt.lt {Bg : Nat} {hs : List It} {w : World} (h : HAt Bg hs w) : Bg < w.heap.size := by
  obtain ⟨v, hb, _⟩ := h
  exact (Array.getElem?_eq_some_iff.1 hb).1
theorem HAt.below {Bg : Nat} {hs : List It} {w w' : World} (h : HAt Bg hs w) (hb : Below w.heap.size w w') : HAt Bg hs w' := by
  have hl := h.lt
  obtain ⟨v, h1, h2⟩ := h
  exact ⟨v, (hb.block Bg hl).trans h1, owns_below h2 hb⟩
theorem HAt.row {Bg : Nat} {hs : List It} {w : World} (h : HAt Bg hs w) (hne : 0 < hs.length) : ∃ g cap, Bg < g ∧ w.heap[Bg]? = some (.cells #[.slice (some ⟨g, 0, none⟩) hs.length cap] 69 (0, 0)) ∧ HRow (Bg + 1) g cap hs w ∧ ∃ cs, w.heap[g]? = some (.cells cs 73 (0, 0)) := by
  obtain ⟨v, h1, h2⟩ := h
  rcases h2.2 with ⟨_, h0⟩ | ⟨g, cap, cur, rfl, hg, hh, _⟩
  · omega
  · exact ⟨g, cap, hg, h1, h2, cur, hh⟩
/-- a row of groups is swapped in place -/
theorem HAt.swap {Bg g cap : Nat} {hs hs' : List It} {w w' : World} (hb : w.heap[Bg]? = some (.cells #[.slice (some ⟨g, 0, none⟩) hs.length cap] 69 (0, 0))) (hg : Bg < g) (ht : ∃ cs, w.heap[g]? = some (.cells cs 73 (0, 0))) (hl : hs'.length = hs.length)
    (hr : HRow (Bg + 1) g cap hs' w') (hgr : w.grownBy w' (some g)) : HAt Bg hs' w' ∧ Fr2 Bg w w' := by
  have hlt := (Array.getElem?_eq_some_iff.1 hb).1
  have hbx := (hgr.block Bg hlt (fun e => by cases e; omega)).trans hb
  refine ⟨⟨.slice (some ⟨g, 0, none⟩) hs.length cap, hbx, ?_⟩, ⟨hgr.os, hgr.tape, hgr.output, hgr.size, fun k hk => hgr.block k (by omega) (fun e => by cases e; omega)⟩, fun k h1 h2 h3 => hgr.block k h1 (fun e => by
    cases e
    exact h3 (rowOf_box hb)), by rw [rowOf_box hb, rowOf_box hbx]⟩
  unfold HRow at hr
  rw [← hl]
  exact hr
set_option maxHeartbeats 1000000 in
set_option maxRecDepth 100000 in
theorem hpush_any (Bg : Nat) (hs : List It) (x : It) (w : World) (h : HAt Bg hs w) (hn : hs.length ≤ 1000) :
    Calls Try.prog 149 #[.pointer (some ⟨Bg, 0, none⟩), .iface 73 (itV x)] w fun e w' => e = .returned (.tuple #[]) ∧ HAt Bg (hs ++ [x]) w' ∧ Fr Bg w w' := by
  have hinf : (Try.prog.info? 73).map (fun i => (i.zero, i.size, i.bytes)) = some (some (.agg #[.int .i64 0, .int .i64 0, .slice none 0 0]), 3, 40) := by kernel_rfl
  obtain ⟨i0, hi, hz0, hz1, hz2⟩ := info_parts hinf
  have hlt := h.lt
  obtain ⟨v, hb, ho⟩ := h
  obtain ⟨c, f, v1, v2, v3⟩ := x
  show Calls Try.prog 149 #[.pointer (some ⟨Bg, 0, none⟩), .iface 73 (.agg #[.int .i64 (c : Int), .int .i64 (f : Int), .slice v1 v2 v3])] w fun e w' => e = .returned (.tuple #[]) ∧ HAt Bg (hs ++ [(c, f, v1, v2, v3)]) w' ∧ Fr Bg w w'
  have hc : w.cell? ⟨Bg, 0, none⟩ = some v := by rw [cell_of_row w Bg 0 _ _ (0, 0) hb]; rfl
  have hcd : w.drew.cell? ⟨Bg, 0, none⟩ = some v := hc
  have hfz : w.frozen? ⟨Bg, 0, none⟩ = false := Lib.frozen_of_heap hb 0
  have hta : ∀ W : World, (Instr.typeAssert (.iface 73 (.agg #[.int .i64 (c : Int), .int .i64 (f : Int), .slice v1 v2 v3])) 20 73 false).run Try.prog W = .ok (.agg #[.int .i64 (c : Int), .int .i64 (f : Int), .slice v1 v2 v3]) W := fun W => rfl
  have hnews : ∀ j u, ([.int .i64 (c : Int), .int .i64 (f : Int), .slice v1 v2 v3] : List Value)[j]? = some u → (w.drew.alloc (.cells #[.int .i64 (c : Int), .int .i64 (f : Int), .slice v1 v2 v3] 73)).cell? ((⟨w.heap.size, 0, none⟩ : Addr).add j) = some u := fun j u hj => by
    have e : (⟨w.heap.size, 0, none⟩ : Addr).add j = ⟨w.heap.size, j, none⟩ := by rw [Addr.add_mid, Nat.zero_add]
    rw [e]
    have h2 := heap_alloc_new w.drew (.cells #[.int .i64 (c : Int), .int .i64 (f : Int), .slice v1 v2 v3] 73)
    rw [show w.drew.heap.size = w.heap.size from rfl] at h2
    rw [cell_of_row _ w.heap.size j _ _ (0, 0) h2]
    have hj3 : j < 3 := (List.getElem?_eq_some_iff.1 hj).1
    rcases (show j = 0 ∨ j = 1 ∨ j = 2 by omega) with rfl | rfl | rfl <;> exact hj
  have h1c : ∀ u ∈ ([.int .i64 (c : Int), .int .i64 (f : Int), .slice v1 v2 v3] : List Value), u.oneCell' = true := fun u hu => by
    simp at hu
    rcases hu with rfl | rfl | rfl <;> rfl
  have HO := Lib.hid ho
  have HB := Lib.hid hb
  have hfin : ∀ w2 v2', w2.ownsRow (Bg + 1) 73 3 v2' (hs.length + 1) (flatI hs ++ [.int .i64 (c : Int), .int .i64 (f : Int), .slice v1 v2 v3]) → (w.drew.alloc (.cells #[.int .i64 (c : Int), .int .i64 (f : Int), .slice v1 v2 v3] 73)).grownBy w2 v.ownBlock → (∃ ao n' cap, v2' = .slice ao n' cap) ∧ w2.cell? ⟨Bg, 0, none⟩ = some v ∧ w2.frozen? ⟨Bg, 0, none⟩ = false ∧ HAt Bg (hs ++ [(c, f, v1, v2, v3)]) (w2.setCell ⟨Bg, 0, none⟩ v2') ∧ Fr Bg w (w2.setCell ⟨Bg, 0, none⟩ v2') := fun w2 v2' ho2 hg2 => by
    have hne : v.ownBlock ≠ some Bg := fun e => by have := (HO.out.lt _ e).1; omega
    have hb1 : (w.drew.alloc (.cells #[.int .i64 (c : Int), .int .i64 (f : Int), .slice v1 v2 v3] 73)).heap[Bg]? = some (.cells #[v] 69 (0, 0)) := (Below.heap_alloc w.drew _ Bg hlt).trans HB.out
    have hb2 := (hg2.block Bg (by show Bg < (w.drew.heap.push _).size; rw [Array.size_push]; show Bg < w.heap.size + 1; omega) (fun e => hne e.symm)).trans hb1
    refine ⟨by rcases ho2.2 with ⟨rfl, _⟩ | ⟨g, cap, cur, rfl, _⟩ <;> exact ⟨_, _, _, rfl⟩, by rw [cell_of_row w2 Bg 0 _ _ (0, 0) hb2]; rfl, Lib.frozen_of_heap hb2 0, ⟨v2', by simp [World.setCell, Array.getElem?_modify, hb2], ?_⟩, ?_⟩
    · have ho3 := ho2.kept (row := some Bg) (w' := w2.setCell ⟨Bg, 0, none⟩ v2') ⟨rfl, rfl, rfl, by simp [World.setCell], fun k _ hk => Below.heap_setCell _ _ _ _ (fun e => hk (by simp [e]))⟩ (Or.inr (fun e => by have := (ho2.lt _ e).1; omega))
      have e : (hs ++ [((c, f, v1, v2, v3) : It)]).length = hs.length + 1 := by simp
      have e2 : flatI (hs ++ [(c, f, v1, v2, v3)]) = flatI hs ++ [.int .i64 (c : Int), .int .i64 (f : Int), .slice v1 v2 v3] := by unfold flatI; rw [List.flatMap_append]; rfl
      rw [e, e2]
      exact ho3
    · have hbl : Below Bg w w2 := (((Below.refl Bg w).drew).alloc (by show Bg ≤ w.heap.size; omega) _).grown hg2 (by show Bg ≤ (w.drew.heap.push _).size; rw [Array.size_push]; show Bg ≤ w.heap.size + 1; omega) (fun k hk => by have := (HO.out.lt k hk).1; omega)
      refine ⟨hbl.setCell (p := ⟨Bg, 0, none⟩) (Nat.le_refl _) _, fun k h1 h2 h3 => ?_⟩
      rw [Below.heap_setCell _ _ _ _ h2]
      rw [hg2.block k (by show k < (w.drew.heap.push _).size; rw [Array.size_push]; show k < w.heap.size + 1; omega) (fun e => by
        rcases HO.out.2 with ⟨rfl, _⟩ | ⟨g, cap, cur, rfl, hg, hh, _⟩
        · cases e
        · cases e; exact h3 _ _ hh)]
      exact Below.heap_alloc w.drew _ k h1
  have HF := Lib.hid hfin
  clear hb hfin
  go_enter Try.func149, Try.ntmps149
  go_wp2
  go_region_law (first
    | (refine step_append_own rfl (.tmp 7) (.tmp 10) 69 rfl (Bg + 1) 73 i0 (.agg #[.int .i64 0, .int .i64 0, .slice none 0 0]) 3 40 Try.underlying69 hi hz0 hz1 hz2 rfl (by decide) v hs.length (flatI hs) (by simp [Act.eval]) (World.ownsRow.alloc (World.ownsRow.drew HO.out) _) ⟨w.heap.size, 0, none⟩ 1 1 [.int .i64 (c : Int), .int .i64 (f : Int), .slice v1 v2 v3] (by simp [Act.eval]) rfl hnews h1c (by unfold maxLen; omega) (by omega) (by simp; omega) ?_; intro v2' w2 ho2 hg2; obtain ⟨⟨ao, n', cap, rfl⟩, hcc, hff, hH, hFr⟩ := HF.out w2 v2' ho2 hg2; have HH := Lib.hid hH; have HFr := Lib.hid hFr; clear ho2 hg2 hH hFr))
  all_goals
    go_wp2
    go_end0
    exact ⟨rfl, HH.out, HFr.out⟩
set_option maxHeartbeats 1000000 in
set_option maxRecDepth 100000 in
theorem hpop_any (Bg : Nat) (hs : List It) (x : It) (w : World) (h : HAt Bg (hs ++ [x]) w) (hn : hs.length ≤ 1000) :
    Calls Try.prog 148 #[.pointer (some ⟨Bg, 0, none⟩)] w fun e w' => e = .returned (.iface 73 (itV x)) ∧ HAt Bg hs w' ∧ Fr2 Bg w w' := by
  have hlt := h.lt
  obtain ⟨g, cap, hg, hb, hr, hgt⟩ := h.row (by simp)
  have hx : (hs ++ [x])[hs.length]? = some x := by simp
  obtain ⟨r0, r1, r2⟩ := hr.cells hx
  obtain ⟨c, f, v1, v2, v3⟩ := x
  show Calls Try.prog 148 #[.pointer (some ⟨Bg, 0, none⟩)] w fun e w' => e = .returned (.iface 73 (.agg #[.int .i64 (c : Int), .int .i64 (f : Int), .slice v1 v2 v3])) ∧ HAt Bg hs w' ∧ Fr2 Bg w w'
  have e1 : (hs ++ [((c, f, v1, v2, v3) : It)]).length = hs.length + 1 := by simp
  have e2 : flatI (hs ++ [(c, f, v1, v2, v3)]) = flatI hs ++ [.int .i64 (c : Int), .int .i64 (f : Int), .slice v1 v2 v3] := by unfold flatI; rw [List.flatMap_append]; rfl
  unfold HRow at hr
  rw [e1, e2] at hr
  rw [e1] at hb
  have hpop := ownsRow_pop (flatI_len hs) hr
  have hcap : hs.length + 1 ≤ cap ∧ cap ≤ maxLen := by
    rcases hr.2 with ⟨h0, _⟩ | ⟨g', cap', cur, hv, _, _, h3, h4, _⟩
    · cases h0
    · cases hv; exact ⟨h3, h4⟩
  unfold maxLen at hcap
  have hc : w.cell? ⟨Bg, 0, none⟩ = some (.slice (some ⟨g, 0, none⟩) (hs.length + 1) cap) := by rw [cell_of_row w Bg 0 _ _ (0, 0) hb]; rfl
  have hfz : w.frozen? ⟨Bg, 0, none⟩ = false := Lib.frozen_of_heap hb 0
  have hfin : HAt Bg hs (w.setCell ⟨Bg, 0, none⟩ (.slice (some ⟨g, 0, none⟩) hs.length cap)) ∧ Fr2 Bg w (w.setCell ⟨Bg, 0, none⟩ (.slice (some ⟨g, 0, none⟩) hs.length cap)) := by
    have hbx : (w.setCell ⟨Bg, 0, none⟩ (.slice (some ⟨g, 0, none⟩) hs.length cap)).heap[Bg]? = some (.cells #[.slice (some ⟨g, 0, none⟩) hs.length cap] 69 (0, 0)) := by simp [World.setCell, Array.getElem?_modify, hb]
    refine ⟨⟨.slice (some ⟨g, 0, none⟩) hs.length cap, hbx, ?_⟩, (Below.refl Bg w).setCell (p := ⟨Bg, 0, none⟩) (Nat.le_refl _) _, fun k h1 h2 h3 => Below.heap_setCell _ _ _ _ h2, by rw [rowOf_box hb, rowOf_box hbx]; rfl⟩
    exact hpop.kept (row := some Bg) ⟨rfl, rfl, rfl, by simp [World.setCell], fun k _ hk => Below.heap_setCell _ _ _ _ (fun e => hk (by simp [e]))⟩ (Or.inr (fun e => by have := (hpop.lt _ e).1; omega))
  have HFN := Lib.hid hfin
  clear hfin hpop hr hb hgt hx e1 e2
  obtain ⟨n, hnn⟩ : ∃ n, n = hs.length := ⟨_, rfl⟩
  rw [← hnn] at hn r0 r1 r2 hcap hc HFN
  clear hnn
  go_enter Try.func148, Try.ntmps148
  go_wp2
  go_ret
  obtain ⟨hH, hF⟩ := HFN.out
  have hBA := (Below.refl (w.setCell ⟨Bg, 0, none⟩ (.slice (some ⟨g, 0, none⟩) n cap)).heap.size (w.setCell ⟨Bg, 0, none⟩ (.slice (some ⟨g, 0, none⟩) n cap))).alloc (Nat.le_refl _) (.cells #[.int .i64 (c : Int), .int .i64 (f : Int), .slice v1 v2 v3] 73)
  exact ⟨rfl, hH.below hBA, hF.trans (fr2_below hBA hH.lt)⟩
end Go.Proofs.Ytgcpdifggjkdhab
