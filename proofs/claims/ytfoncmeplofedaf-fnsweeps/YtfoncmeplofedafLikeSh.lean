/- CONTRACT: the laws' likeShelf of two that are alike. -/
import Derived.Test.YtfoncmeplofedafBun
import Derived.Deep.QuietTactic
namespace Go.Proofs.Ytfoncmeplofedaf
open Go.RowKit
set_option linter.unusedVariables false
set_option maxRecDepth 100000 in
theorem neqIt (a : Int) (b : ByteArray) (c d : Int) (e : Bool) (W : World) : (Op.equalIn 10000 43 (.agg #[.int .i64 a, .string b, .int .i64 c, .int .i64 d, .bool e]) (.agg #[.int .i64 a, .string b, .int .i64 c, .int .i64 d, .bool e])).run Try.prog W = .ok true W := by
  have u1 := Try.underlying43
  have u2 := Try.underlying41
  have u3 := Try.underlying2
  have u4 := Try.underlying9
  have u5 := Try.underlying4
  have a1 := Try.isAgg41
  have a3 := Try.isAgg2
  have a4 := Try.isAgg9
  have a5 := Try.isAgg4
  have z2 := Try.sizeOf41
  have s1 : Try.prog.stoodInHeld 43 = false := by kernel_rfl
  have s2 : Try.prog.stoodInHeld 41 = false := by kernel_rfl
  have f1 : Try.prog.fieldsOf 43 = (match Try.prog.underlying 43 with | some (.struct fs) => fs | _ => #[]) := by kernel_rfl
  have f2 : Try.prog.fieldsOf 41 = (match Try.prog.underlying 41 with | some (.struct fs) => fs | _ => #[]) := by kernel_rfl
  rw [u1] at f1
  rw [u2] at f2
  simp only at f1 f2
  have hB : (Op.equalIn 9999 41 (.agg #[.int .i64 a, .string b]) (.agg #[.int .i64 a, .string b])).run Try.prog W = .ok true W := by
    have h1 := run_equalIn_int (P := Try.prog) W 9997 2 .i64 .i64 a a u3
    have h2 := run_equalIn_string (P := Try.prog) W 9997 9 b b u4
    simp only [Nat.reduceAdd] at h1 h2
    rw [show (9999 : Nat) = 9998 + 1 from rfl, run_equalIn_agg W 9998 _ _ _ (by rw [f2]; exact u2) s2, f2]
    simp [Op.eqFields, part, a3, a4, h1, h2]
  have h3 := run_equalIn_int (P := Try.prog) W 9998 2 .i64 .i64 c c u3
  have h4 := run_equalIn_int (P := Try.prog) W 9998 2 .i64 .i64 d d u3
  have h5 := run_equalIn_bool' (P := Try.prog) W 9998 4 e e u5
  simp only [Nat.reduceAdd] at h3 h4 h5
  rw [show (10000 : Nat) = 9999 + 1 from rfl, run_equalIn_agg W 9999 _ _ _ (by rw [f1]; exact u1) s1, f1]
  simp [Op.eqFields, part, a1, a3, a5, z2, hB, h3, h4, h5]
set_option maxHeartbeats 4000000 in
set_option maxRecDepth 100000 in
theorem likeShelf_same (r : Int) (va vb : Value) (xs : List It) (w : World) (ha : RdG itf 5 w va xs) (hb : RdG itf 5 w vb xs) (hl : xs.length ≤ 1048576) :
    Calls Try.prog 15 #[.agg #[.int .i64 r, va], .agg #[.int .i64 r, vb]] w fun e w' => e = .returned (.bool true) ∧ Below w.heap.size w w' := by
  obtain ⟨W2, hW2⟩ : ∃ W2, W2 = (w.alloc (.cells #[.int .i64 r, va] 33)).alloc (.cells #[.int .i64 r, vb] 33) := ⟨_, rfl⟩
  have hb2 : Below w.heap.size w W2 := by
    rw [hW2]; exact ((Below.refl w.heap.size w).alloc (Nat.le_refl _) _).alloc (by rw [alloc_sizeI]; omega) _
  have hs2 : W2.heap.size = w.heap.size + 1 + 1 := by rw [hW2, alloc_sizeI, alloc_sizeI]
  have hA : W2.heap[w.heap.size]? = some (.cells #[.int .i64 r, va] 33 (0, 0)) := by
    rw [hW2, Below.heap_alloc _ _ _ (by rw [alloc_sizeI]; omega)]; exact heap_alloc_new w _
  have hZ : W2.heap[w.heap.size + 1]? = some (.cells #[.int .i64 r, vb] 33 (0, 0)) := by
    rw [hW2]
    have e := heap_alloc_new (w.alloc (.cells #[.int .i64 r, va] 33)) (.cells #[.int .i64 r, vb] 33)
    rw [alloc_sizeI] at e
    exact e
  obtain ⟨ao, ac, hva⟩ := rdG_shape ha
  obtain ⟨bo, bc, hvb⟩ := rdG_shape hb
  have HC : Hid (∀ W, Below W2.heap.size W2 W → W.cell? ⟨w.heap.size, 1, none⟩ = some va ∧ W.cell? ⟨w.heap.size + 1, 1, none⟩ = some vb) := fun W h => by
    have h1 := (h.block w.heap.size (by omega)).trans hA
    have h2 := (h.block (w.heap.size + 1) (by omega)).trans hZ
    exact ⟨cell_of_row W _ 1 _ _ (0, 0) h1, cell_of_row W _ 1 _ _ (0, 0) h2⟩
  have rd : ∀ (o : Option Addr) (c : Nat), RdG itf 5 w (.slice o xs.length c) xs → ∀ k W, k < xs.length → Below W2.heap.size W2 W → ∃ b off, o = some ⟨b, off, none⟩ ∧ W.cell? ⟨b, off + k * 5, none⟩ = some (.int .i64 (xs.getD k it0).1) ∧ W.cell? ⟨b, off + k * 5 + 1, none⟩ = some (.string (xs.getD k it0).2.1) ∧ W.cell? ⟨b, off + k * 5 + 2, none⟩ = some (.int .i64 (xs.getD k it0).2.2.1) ∧ W.cell? ⟨b, off + k * 5 + 3, none⟩ = some (.int .i64 (xs.getD k it0).2.2.2.1) ∧ W.cell? ⟨b, off + k * 5 + 4, none⟩ = some (.bool (xs.getD k it0).2.2.2.2) := fun o c h k W hk hW => by
    rcases rdG_cases h with ⟨h0, _⟩ | ⟨_, b, off, c2, hv, _, hlt, hc⟩
    · rw [h0] at hk; exact absurd hk (Nat.not_lt_zero _)
    · simp only [Value.slice.injEq] at hv
      exact ⟨b, off, hv.1, it_cells (cellsG_below hc hlt (hb2.trans (hW.mono (by omega)))) hk⟩
  have HRA := Lib.hid (rd ao ac (by rw [← hva]; exact ha))
  have HRB := Lib.hid (rd bo bc (by rw [← hvb]; exact hb))
  have HEQ := Lib.hid (fun (a : Int) (b : ByteArray) (c d : Int) (e : Bool) (W : World) => neqIt a b c d e W)
  have HB2 := Lib.hid hb2
  subst hva
  subst hvb
  obtain ⟨n, hn⟩ : ∃ n, n = xs.length := ⟨_, rfl⟩
  rw [← hn] at HC HRA HRB hW2 hl ⊢
  have hb00 : Hid (Below W2.heap.size W2 W2) := Below.refl _ _
  have HW := Lib.hid hW2
  clear rd ha hb hA hZ hb2 hs2 hn
  go_enter Try.func15, Try.ntmps15
  go_wp2
  rw [← hW2]
  clear hW2
  go_loopw [5] (fun i wr => ∃ k : Nat, k ≤ n ∧ i = .int .i64 (k : Int) ∧ Below W2.heap.size W2 wr) (fun i _ => n - (intOf i).toNat)
  case atStart => exact ⟨0, Nat.zero_le _, rfl, hb00.out⟩
  case round =>
    rename World => wr
    obtain ⟨k, hk, rfl, hbr⟩ := hrel
    obtain ⟨x1, x2⟩ := HC.out wr hbr
    by_cases hltk : k < n
    · obtain ⟨b, off, rfl, d0, d1, d2, d3, d4⟩ := HRA.out k wr hltk hbr
      obtain ⟨b2, off2, rfl, e0, e1, e2, e3, e4⟩ := HRB.out k wr hltk hbr
      generalize xs.getD k it0 = y at d0 d1 d2 d3 d4 e0 e1 e2 e3 e4
      obtain ⟨y1, y2, y3, y4, y5⟩ := y
      simp only at d0 d1 d2 d3 d4 e0 e1 e2 e3 e4
      have heq := fun W => HEQ.out y1 y2 y3 y4 y5 W
      have hkI : (k : Int) < (n : Int) := by omega
      go_wp2_with fail
      go_quiet (fail)
      go_wp2
      go_roundw
      case rel => exact ⟨k + 1, by omega, by go_num, ⟨hbr.os, hbr.tape, hbr.output, hbr.size, hbr.block⟩⟩
      case measure => simp [intOf] <;> omega
    · obtain rfl : k = n := by omega
      have hkI : ¬ (k : Int) < (k : Int) := by omega
      have HB := Lib.hid (HB2.out.trans (hbr.mono HB2.out.size))
      go_wp2
      go_ret
      exact ⟨rfl, HB.out⟩
end Go.Proofs.Ytfoncmeplofedaf
