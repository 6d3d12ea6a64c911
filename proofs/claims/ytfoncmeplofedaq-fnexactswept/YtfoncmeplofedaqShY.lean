/- CONTRACTS: the specification's l13Synced, l13Crashed, l13Swept, each of a shelf that lies in a box (behind a pointer). -/
import Derived.Test.YtfoncmeplofedaqShC
import Derived.Test.YtfoncmeplofedaqHasBig
import Derived.Deep.LoopGhost
import Derived.Deep.RegionHeld
namespace Go.Proofs.Ytfoncmeplofedaq
open Go.RowKit
set_option linter.unusedVariables false
/-- a shelf in block B; its row is owned from B0 on -/
structure ShB (B0 B : Nat) (r : Int) (v : Value) (l : List It) (w : World) : Prop where
  box : w.heap[B]? = some (.cells #[.int .i64 r, v] 29 (0, 0))
  own : OwnI w B0 v l
  base : B0 ≤ B
  ne : v.ownBlock ≠ some B
theorem ShB.lt {B0 B : Nat} {r : Int} {v : Value} {l : List It} {w : World} (h : ShB B0 B r v l w) : B < w.heap.size := (Array.getElem?_eq_some_iff.1 h.box).1
theorem ShB.c0 {B0 B : Nat} {r : Int} {v : Value} {l : List It} {w : World} (h : ShB B0 B r v l w) : w.cell? ⟨B, 0, none⟩ = some (.int .i64 r) := cell_of_row w B 0 _ _ (0, 0) h.box
theorem ShB.c1 {B0 B : Nat} {r : Int} {v : Value} {l : List It} {w : World} (h : ShB B0 B r v l w) : w.cell? ⟨B, 1, none⟩ = some v := cell_of_row w B 1 _ _ (0, 0) h.box
set_option maxHeartbeats 8000000 in
set_option maxRecDepth 100000 in
theorem l13Swept_any (B0 B : Nat) (r : Int) (v : Value) (l : List It) (round : Int) (vm : Value) (ms : List Int) (w : World) (h : ShB B0 B r v l w) (hm : Rd w vm (cellsInt64S ms)) (hl : l.length ≤ 1048576) (hml : ms.length ≤ 4194304) :
    Calls Try.prog 28 #[.pointer (some ⟨B, 0, none⟩), .int .i64 round, vm] w fun e w' => e = .returned (.int .i64 (if round < r ∨ 100000 < round then -1 else (l.length : Int) - ((sweptL round ms l).length : Int))) ∧ (∃ v', ShB B0 B (if round < r ∨ 100000 < round then r else round) v' (if round < r ∨ 100000 < round then l else sweptL round ms l) w') ∧ Below B0 w w' := by
  have hdt := itY.ty itW
  have hBl := h.lt
  have hbase := h.base
  have hc0 := h.c0
  have hc1 := h.c1
  by_cases hbad : round < r ∨ 100000 < round
  · rw [if_pos hbad, if_pos hbad, if_pos hbad]
    have HH := Lib.hid h
    clear h hm
    by_cases h1 : round < r
    · clear hbad
      go_enter Try.func28, Try.ntmps28
      go_wp2
      go_ret
      exact ⟨rfl, ⟨v, HH.out⟩, Below.refl _ _⟩
    · have h2 : 100000 < round := by omega
      clear hbad
      go_enter Try.func28, Try.ntmps28
      go_wp2
      go_ret
      exact ⟨rfl, ⟨v, HH.out⟩, Below.refl _ _⟩
  rw [if_neg hbad, if_neg hbad, if_neg hbad]
  have hg1 : ¬ round < r := fun e => hbad (Or.inl e)
  have hg2 : ¬ 100000 < round := fun e => hbad (Or.inr e)
  have hs0 : w.heap.size ≤ (w.alloc (.cells #[] 82)).heap.size := by rw [World.size_alloc]; omega
  have ho0 : OwnI (w.alloc (.cells #[] 82)) w.heap.size (.slice (some ⟨w.heap.size, 0, none⟩) 0 0) [] := World.ownsRow_lit (base := w.heap.size) (e := 82) (size := 5) w #[] 0 (Nat.le_refl _) (Nat.zero_le _) rfl
  have hb0 : Below w.heap.size w (w.alloc (.cells #[] 82)) := (Below.refl _ _).alloc (Nat.le_refl _) _
  obtain ⟨ao, cap, hva⟩ := ownG_shape h.own
  have HRD : Hid (∀ k wr, k < l.length → Below w.heap.size w wr → ∃ b off, ao = some ⟨b, off, none⟩ ∧ wr.cell? ⟨b, off + k * 5, none⟩ = some (.int .i64 (l.getD k it0).1) ∧ wr.cell? ⟨b, off + k * 5 + 1, none⟩ = some (.string (l.getD k it0).2.1) ∧ wr.cell? ⟨b, off + k * 5 + 2, none⟩ = some (.int .i64 (l.getD k it0).2.2.1) ∧ wr.cell? ⟨b, off + k * 5 + 3, none⟩ = some (.int .i64 (l.getD k it0).2.2.2.1) ∧ wr.cell? ⟨b, off + k * 5 + 4, none⟩ = some (.bool (l.getD k it0).2.2.2.2)) := fun k wr hk hW => by
    rcases rdG_cases (rdG_owns itW h.own) with ⟨h0, _⟩ | ⟨_, b, off, c2, hv, _, hlt, hc⟩
    · rw [h0] at hk; exact absurd hk (Nat.not_lt_zero _)
    · rw [hva] at hv
      simp only [Value.slice.injEq] at hv
      exact ⟨b, off, hv.1, it_cells (cellsG_below hc hlt hW) hk⟩
  have HBOX : Hid (∀ wr, Below w.heap.size w wr → wr.heap[B]? = some (.cells #[.int .i64 r, v] 29 (0, 0))) := fun wr hW => (hW.block B hBl).trans h.box
  have HFIN : Hid (∀ (wr : World) (v' : Value), Below w.heap.size w wr → OwnI wr w.heap.size v' (sweptL round ms l) → ShB B0 B round v' (sweptL round ms l) ((wr.setCell ⟨B, 1, none⟩ v').setCell ⟨B, 0, none⟩ (.int .i64 round)) ∧ Below B0 w ((wr.setCell ⟨B, 1, none⟩ v').setCell ⟨B, 0, none⟩ (.int .i64 round))) := fun wr v' hW ho => by
    have hx := HBOX.out wr hW
    refine ⟨⟨?_, own_lower (own_setCell (own_setCell ho (p := ⟨B, 1, none⟩) hBl v') (p := ⟨B, 0, none⟩) hBl _) (by omega), hbase, fun e => ?_⟩, ((hW.mono (by omega)).setCell (p := ⟨B, 1, none⟩) hbase v').setCell (p := ⟨B, 0, none⟩) hbase _⟩
    · simp [World.setCell, Array.getElem?_modify, hx]
    · have := (ho.lt B e).1; omega
  have HSN : Hid (∀ k, k < l.length → sweptL round ms (l.take (k + 1)) = sweptL round ms (l.take k) ++ (if stayP round ms (l.getD k it0) = true then [l.getD k it0] else [])) := fun k hk => swept_snoc round ms l k hk
  have HEND : Hid (sweptL round ms (l.take l.length) = sweptL round ms l) := by show _ = _; rw [List.take_length]
  have HLE : Hid (∀ k, (sweptL round ms (l.take k)).length ≤ k) := fun k => Nat.le_trans (swept_len _ _ _) (List.length_take_le _ _)
  have hRle := swept_len round ms l
  have h0 : sweptL round ms (l.take 0) = [] := rfl
  have HST : Hid (∀ p, stayP round ms p = (decide (round ≤ p.2.2.1) || ms.contains p.1)) := fun p => rfl
  have HHAS : Hid (∀ (W : World) (d : Int), Below w.heap.size w W → Calls Try.prog 55 #[vm, .int .i64 d] W fun e w' => e = .returned (.bool (ms.contains d)) ∧ w' = W) := fun W d hW => l1Has_big vm ms d W (rd_below hm hW) hml
  rw [← h0] at ho0
  generalize sweptL round ms l = R at HFIN HEND hRle ⊢
  obtain ⟨F, hF⟩ : ∃ F : Nat → List It, F = fun k => sweptL round ms (l.take k) := ⟨_, rfl⟩
  have hF' : ∀ k, sweptL round ms (l.take k) = F k := fun k => by rw [hF]
  simp only [hF'] at HSN HEND HLE ho0
  obtain ⟨n, hnn⟩ : ∃ n, n = l.length := ⟨_, rfl⟩
  rw [← hnn] at HRD HSN HEND hl hva hRle ⊢
  subst hva
  have HHO := Lib.hid ho0
  clear h hF hF' hnn h0 ho0 hm hbad
  go_enter Try.func28, Try.ntmps28
  go_wp2
  go_loopw [7, 8] (fun v2 i wr => ∃ k : Nat, k ≤ n ∧ i = .int .i64 (k : Int) ∧ OwnI wr w.heap.size v2 (F k) ∧ Below w.heap.size w wr) (fun _ i _ => n - (intOf i).toNat)
  case atStart => exact ⟨0, Nat.zero_le _, rfl, HHO.out, hb0⟩
  case round =>
    rename World => wr
    obtain ⟨k, hk, rfl, ho, hb⟩ := hrel
    clear HHO hb0 hc1 hc0 hs0
    have hbx := HBOX.out wr hb
    have x1 := cell_of_row wr B 1 _ _ (0, 0) hbx
    simp only [List.getElem?_toArray, List.getElem?_cons_zero, List.getElem?_cons_succ] at x1
    have hsb := hb.size
    obtain ⟨bo, bc, hbo⟩ := ownG_shape ho
    subst hbo
    by_cases hltk : k < n
    rotate_left
    · obtain rfl : k = n := by omega
      rw [HEND.out] at ho ⊢
      have hkI : ¬ (k : Int) < (k : Int) := by omega
      have HF := Lib.hid (HFIN.out wr _ hb ho)
      have z1 := Lib.frozen_of_heap hbx 1
      have z0 := Lib.frozen_of_heap hbx 0
      have x0 := cell_of_row wr B 0 _ _ (0, 0) hbx
      simp only [List.getElem?_toArray, List.getElem?_cons_zero] at x0
      have hRI : IntKind.i64.wrap ((k : Int) - (R.length : Int)) = (k : Int) - (R.length : Int) := IntWalk.i64_in _ ⟨by omega, by omega⟩
      clear ho HFIN HRD HSN HLE HEND hb HHAS
      go_wp2
      go_ret
      exact ⟨rfl, ⟨_, HF.out.1⟩, HF.out.2⟩
    obtain ⟨b, off, rfl, d0, d1, d2, d3, d4⟩ := HRD.out k wr hltk hb
    have hsn := HSN.out k hltk
    have hle := HLE.out k
    have hst := HST.out (l.getD k it0)
    obtain ⟨x, hxx⟩ : ∃ x, x = l.getD k it0 := ⟨_, rfl⟩
    rw [← hxx] at d0 d1 d2 d3 d4 hsn hst
    obtain ⟨y1, y2, y3, y4, y5⟩ := x
    simp only at d0 d1 d2 d3 d4 hst
    have hkI : (k : Int) < (n : Int) := by omega
    have ho1 := ho.alloc (.cells #[.int .i64 y1, .string y2, .int .i64 y3, .int .i64 y4, .bool y5] 82)
    have hb1 := hb.alloc hsb (.cells #[.int .i64 y1, .string y2, .int .i64 y3, .int .i64 y4, .bool y5] 82)
    clear hxx ho hb
    by_cases h3 : round ≤ y3
    · rw [decide_eq_true h3, Bool.true_or] at hst
      have HSN2 : Hid (F (k + 1) = F k ++ [(y1, y2, y3, y4, y5)]) := by show _ = _; rw [hsn, if_pos hst]
      clear hsn hst
      have hrq := rdG_one itW (wr.alloc (.cells #[.int .i64 y1, .string y2, .int .i64 y3, .int .i64 y4, .bool y5] 82)) (y1, y2, y3, y4, y5) 82
      have hoa := ho1.alloc (.cells #[.int .i64 y1, .string y2, .int .i64 y3, .int .i64 y4, .bool y5] 82)
      have hba := hb1.alloc hb1.size (.cells #[.int .i64 y1, .string y2, .int .i64 y3, .int .i64 y4, .bool y5] 82)
      have hsA : w.heap.size ≤ ((wr.alloc (.cells #[.int .i64 y1, .string y2, .int .i64 y3, .int .i64 y4, .bool y5] 82)).alloc (.cells #[.int .i64 y1, .string y2, .int .i64 y3, .int .i64 y4, .bool y5] 82)).heap.size := hba.size
      have hln : (F k).length + [(y1, y2, y3, y4, y5)].length ≤ 16777216 := by rw [List.length_singleton]; omega
      rw [World.size_alloc] at hrq
      clear ho1 hb1
      go_wp2_with (at_builtin; refine own_stepG hdt itW rfl _ _ rfl w.heap.size _ (.slice (some ⟨wr.heap.size + 1, 0, none⟩) 1 1) (F k) [(y1, y2, y3, y4, y5)] rfl rfl hoa hrq hln hsA ?_)
      intro v20 w20 ho20 hg20 hi20
      have HB20 := Lib.hid (hba.grown hg20 hsA (fun q hq => (hoa.lt q hq).1))
      rw [← HSN2.out] at ho20
      have HO20 := Lib.hid ho20
      clear ho20 hg20 hi20 hoa hba hrq hln
      go_wp2
      go_roundw
      case rel => exact ⟨k + 1, by omega, by go_num, HO20.out, HB20.out⟩
      case measure => simp [intOf]; omega
    · have hcall := HHAS.out _ y1 hb1
      rw [decide_eq_false h3, Bool.false_or] at hst
      cases hc : ms.contains y1 with
      | false =>
        rw [hc] at hst hcall
        rw [if_neg (by rw [hst]; decide), List.append_nil] at hsn
        have HO : Hid (OwnI (wr.alloc (.cells #[.int .i64 y1, .string y2, .int .i64 y3, .int .i64 y4, .bool y5] 82)) w.heap.size (.slice bo (F k).length bc) (F (k + 1))) := by show OwnI _ _ _ _; rw [hsn]; exact ho1
        have HB := Lib.hid hb1
        clear ho1 hb1 hsn hst hc
        go_wp2_with fail
        refine hcall.mono ?_
        rintro e w9 ⟨rfl, rfl⟩
        go_wp2
        go_roundw
        case rel => exact ⟨k + 1, by omega, by go_num, HO.out, HB.out⟩
        case measure => simp [intOf]; omega
      | true =>
        rw [hc] at hst hcall
        have HSN2 : Hid (F (k + 1) = F k ++ [(y1, y2, y3, y4, y5)]) := by show _ = _; rw [hsn, if_pos hst]
        clear hsn hst hc
        have hrq := rdG_one itW (wr.alloc (.cells #[.int .i64 y1, .string y2, .int .i64 y3, .int .i64 y4, .bool y5] 82)) (y1, y2, y3, y4, y5) 82
        have hoa := ho1.alloc (.cells #[.int .i64 y1, .string y2, .int .i64 y3, .int .i64 y4, .bool y5] 82)
        have hba := hb1.alloc hb1.size (.cells #[.int .i64 y1, .string y2, .int .i64 y3, .int .i64 y4, .bool y5] 82)
        have hsA : w.heap.size ≤ ((wr.alloc (.cells #[.int .i64 y1, .string y2, .int .i64 y3, .int .i64 y4, .bool y5] 82)).alloc (.cells #[.int .i64 y1, .string y2, .int .i64 y3, .int .i64 y4, .bool y5] 82)).heap.size := hba.size
        have hln : (F k).length + [(y1, y2, y3, y4, y5)].length ≤ 16777216 := by rw [List.length_singleton]; omega
        rw [World.size_alloc] at hrq
        clear ho1 hb1
        go_wp2_with fail
        refine hcall.mono ?_
        rintro e w9 ⟨rfl, rfl⟩
        clear hcall
        go_wp2_with (at_builtin; refine own_stepG hdt itW rfl _ _ rfl w.heap.size _ (.slice (some ⟨wr.heap.size + 1, 0, none⟩) 1 1) (F k) [(y1, y2, y3, y4, y5)] rfl rfl hoa hrq hln hsA ?_)
        intro v20 w20 ho20 hg20 hi20
        have HB20 := Lib.hid (hba.grown hg20 hsA (fun q hq => (hoa.lt q hq).1))
        rw [← HSN2.out] at ho20
        have HO20 := Lib.hid ho20
        clear ho20 hg20 hi20 hoa hba hrq hln
        go_wp2
        go_roundw
        case rel => exact ⟨k + 1, by omega, by go_num, HO20.out, HB20.out⟩
        case measure => simp [intOf]; omega
/-- what a sweep answers of a right shelf -/
def sweptN (r : Int) (l : List It) (round : Int) (ms : List Int) : (Int × List It) × Int := if round < r ∨ 100000 < round then ((r, l), -1) else ((round, sweptL round ms l), (l.length : Int) - ((sweptL round ms l).length : Int))
theorem sweptT_right {r : Int} {l : List It} {round : Int} {ms : List Int} (h : shelfB r l = true) : sweptT r l round ms = sweptN r l round ms := by unfold sweptT; rw [if_pos h]; rfl
theorem l13SweptN_any (B0 B : Nat) (r : Int) (v : Value) (l : List It) (round : Int) (vm : Value) (ms : List Int) (w : World) (h : ShB B0 B r v l w) (hm : Rd w vm (cellsInt64S ms)) (hl : l.length ≤ 1048576) (hml : ms.length ≤ 4194304) :
    Calls Try.prog 28 #[.pointer (some ⟨B, 0, none⟩), .int .i64 round, vm] w fun e w' => e = .returned (.int .i64 (sweptN r l round ms).2) ∧ (∃ v', ShB B0 B (sweptN r l round ms).1.1 v' (sweptN r l round ms).1.2 w') ∧ Below B0 w w' := by
  have h9 := l13Swept_any B0 B r v l round vm ms w h hm hl hml
  unfold sweptN
  by_cases hc : round < r ∨ 100000 < round
  · rw [if_pos hc, if_pos hc, if_pos hc] at h9
    rw [if_pos hc]
    exact h9
  · rw [if_neg hc, if_neg hc, if_neg hc] at h9
    rw [if_neg hc]
    exact h9
end Go.Proofs.Ytfoncmeplofedaq
