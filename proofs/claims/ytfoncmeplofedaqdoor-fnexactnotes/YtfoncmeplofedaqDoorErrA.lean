/- CONTRACT: errors.As of a misfit at a box of one: found at once. (After the guide's worked example of errors.As.) -/
import Derived.Test.YtfoncmeplofedaqDoorBasis
import Derived.WalkKit
import Derived.LaidEql
import Derived.Stop.Asserts
import Derived.RowKitTokens
import Derived.Laws.ResultCell
import Derived.Lib.Hide
namespace Go.Proofs.YtfoncmeplofedaqDoor
open Go.RowKit Go.Extern.Stop Go.Stop Go.Extern
set_option linter.unusedVariables false
abbrev hndE (t : Nat) : Value := .pointer (some ⟨2, t, none⟩)
theorem asNil_any (t : Value) (w : World) : Calls Tryd.prog 11 #[.nilIface, t] w fun e w' => e = .returned (.bool false) ∧ w' = w := by
  go_enter Tryd.func11, Tryd.ntmps11
  go_wp2
  go_ret
  exact ⟨rfl, rfl⟩
theorem valueOfP (t : Addr) (w : World) : (ReflectliteValue.unpack (.iface 39 (.pointer (some t)))).run Tryd.prog w
    = .ok (.agg #[.pointer (some ⟨2, 39, none⟩), .pointer (some ⟨w.heap.size, 0, none⟩), .int .u64 150]) (w.alloc (.cells #[.pointer (some t)] 39)) := by kernel_rfl
theorem typeP (a : Addr) (w : World) : (ReflectliteValue.methodAny (ReflectliteValue.valueError "reflectlite.Value.Type" 0) (fun t _ _ _ => ReflectliteType.toType t) #[.agg #[.pointer (some ⟨2, 39, none⟩), .pointer (some a), .int .u64 150]]).run Tryd.prog w
    = .ok (.iface 85 (.agg #[.pointer (some ⟨2, 39, none⟩)])) w := by kernel_rfl
theorem methodKindE (h : Value) (w : World) : (Go.method 250 85 (.agg #[h]) "Kind").run Tryd.prog w = .ok (64, h) w := by kernel_rfl
theorem kindP (w : World) : ((ReflectliteType.abiMethod fun t => (fun a : Nat => Value.int IntKind.u8 (a : Int)) <$> Rtype.kind t) #[.pointer (some ⟨2, 39, none⟩)]).run Tryd.prog w = .ok (.int .u8 22) w := by kernel_rfl
theorem kindM (w : World) : ((ReflectliteType.abiMethod fun t => (fun a : Nat => Value.int IntKind.u8 (a : Int)) <$> Rtype.kind t) #[.pointer (some ⟨2, 37, none⟩)]).run Tryd.prog w = .ok (.int .u8 25) w := by kernel_rfl
theorem partsP (a : Addr) (w : World) : (ReflectliteValue.parts (.agg #[.pointer (some ⟨2, 39, none⟩), .pointer (some a), .int .u64 150])).run Tryd.prog w = .ok (some (39, a, 150)) w := by kernel_rfl
theorem isNilP (a p : Addr) (W : World) (ha : W.cell? a = some (.pointer (some p))) :
    (ReflectliteValue.method (ReflectliteValue.valueError "reflectlite.Value.IsNil" 0) ReflectliteValue.isNil #[.agg #[.pointer (some ⟨2, 39, none⟩), .pointer (some a), .int .u64 150]]).run Tryd.prog W = .ok (.bool false) W := by
  show Sem.run _ (ReflectliteValue.parts (.agg #[.pointer (some ⟨2, 39, none⟩), .pointer (some a), .int .u64 150]) >>= fun p => _) _ = _
  simp only [Sem.run_bind, partsP, Result.andThen]
  simp [ReflectliteValue.isNil, loadVar, isAgg, underlying, Tryd.underlying39, ha, Result.andThen]
theorem methodElemE (h : Value) (w : World) : (Go.method 250 85 (.agg #[h]) "Elem").run Tryd.prog w = .ok (76, .agg #[h]) w := by kernel_rfl
theorem methodImplE (h : Value) (w : World) : (Go.method 250 85 (.agg #[h]) "Implements").run Tryd.prog w = .ok (77, .agg #[h]) w := by kernel_rfl
theorem methodAssE (h : Value) (w : World) : (Go.method 250 85 (.agg #[h]) "AssignableTo").run Tryd.prog w = .ok (74, .agg #[h]) w := by kernel_rfl
theorem elemP (w : World) : (ReflectliteType.method ReflectliteType.elem #[.agg #[.pointer (some ⟨2, 39, none⟩)]]).run Tryd.prog w = .ok (.iface 85 (.agg #[.pointer (some ⟨2, 37, none⟩)])) w := by kernel_rfl
theorem implM (w : World) : (ReflectliteType.relation "Implements" ReflectliteType.implements_ #[.agg #[.pointer (some ⟨2, 37, none⟩)], .iface 85 (.agg #[.pointer (some ⟨2, 33, none⟩)])]).run Tryd.prog w = .ok (.bool true) w := by kernel_rfl
theorem typeOfM (v : Value) (w : World) : (ReflectliteType.typeOf #[.iface 37 v]).run Tryd.prog w = .ok (.iface 85 (.agg #[.pointer (some ⟨2, 37, none⟩)])) w := by kernel_rfl
theorem assM (w : World) : (ReflectliteType.relation "AssignableTo" ReflectliteType.assignableTo #[.agg #[.pointer (some ⟨2, 37, none⟩)], .iface 85 (.agg #[.pointer (some ⟨2, 37, none⟩)])]).run Tryd.prog w = .ok (.bool true) w := by kernel_rfl
theorem valueOfM (n : Int) (w : World) : (ReflectliteValue.unpack (.iface 37 (.agg #[.int .i64 n]))).run Tryd.prog w
    = .ok (.agg #[.pointer (some ⟨2, 37, none⟩), .pointer (some ⟨w.heap.size, 0, none⟩), .int .u64 153]) (w.alloc (.cells #[.int .i64 n] 37)) := by kernel_rfl
theorem elemOfP (w : World) : (Rtype.elem? 39).run Tryd.prog w = .ok (some 37) w := by kernel_rfl
theorem mkM (p : Addr) (w : World) : (ReflectliteValue.mk 37 p ReflectliteValue.flagAddr).run Tryd.prog w = .ok (.agg #[.pointer (some ⟨2, 37, none⟩), .pointer (some p), .int .u64 409]) w := by kernel_rfl
theorem elemVP (a p : Addr) (W : World) (ha : W.cell? a = some (.pointer (some p))) :
    (ReflectliteValue.method (ReflectliteValue.valueError "reflectlite.Value.Elem" 0) ReflectliteValue.elem #[.agg #[.pointer (some ⟨2, 39, none⟩), .pointer (some a), .int .u64 150]]).run Tryd.prog W
      = .ok (.agg #[.pointer (some ⟨2, 37, none⟩), .pointer (some p), .int .u64 409]) W := by
  show Sem.run _ (ReflectliteValue.parts (.agg #[.pointer (some ⟨2, 39, none⟩), .pointer (some a), .int .u64 150]) >>= fun p => _) _ = _
  simp only [Sem.run_bind, partsP, Result.andThen]
  simp [ReflectliteValue.elem, loadVar, isAgg, underlying, Tryd.underlying39, ha, Result.andThen, elemOfP, mkM]
theorem partsMa (a : Addr) (w : World) : (ReflectliteValue.parts (.agg #[.pointer (some ⟨2, 37, none⟩), .pointer (some a), .int .u64 409])).run Tryd.prog w = .ok (some (37, a, 409)) w := by kernel_rfl
theorem partsM (a : Addr) (w : World) : (ReflectliteValue.parts (.agg #[.pointer (some ⟨2, 37, none⟩), .pointer (some a), .int .u64 153])).run Tryd.prog w = .ok (some (37, a, 153)) w := by kernel_rfl
theorem directM (w : World) : (Rtype.directlyAssignable 37 37).run Tryd.prog w = .ok true w := by kernel_rfl
theorem sizeM (w : World) : (sizeOf 37).run Tryd.prog w = .ok 1 w := by kernel_rfl
theorem infoM : (Tryd.prog.info? 37).map (·.size) = some 1 := by kernel_rfl
theorem setM (gt gb : Nat) (n : Int) (old : Value) (W : World) (hb : W.heap[gb]? = some (.cells #[.int .i64 n] 37 (0, 0))) (ht : W.heap[gt]? = some (.cells #[old] 37 (0, 0))) :
    (ReflectliteValue.set #[.agg #[.pointer (some ⟨2, 37, none⟩), .pointer (some ⟨gt, 0, none⟩), .int .u64 409], .agg #[.pointer (some ⟨2, 37, none⟩), .pointer (some ⟨gb, 0, none⟩), .int .u64 153]]).run Tryd.prog W
      = .ok (.tuple #[]) (W.setCell ⟨gt, 0, none⟩ (.int .i64 n)) := by
  have hl := run_loadVar_row (P := Tryd.prog) W gb 37 37 #[.int .i64 n] (0, 0) _ hb Tryd.underlying37 rfl infoM
  have c0 : W.cell? ⟨gt, 0, none⟩ = some old := cell_of_row W gt 0 _ _ (0, 0) ht
  have f0 : W.frozen? ⟨gt, 0, none⟩ = false := Lib.frozen_of_heap ht 0
  show Sem.run _ (ReflectliteValue.parts (.agg #[.pointer (some ⟨2, 37, none⟩), .pointer (some ⟨gt, 0, none⟩), .int .u64 409]) >>= fun p => ReflectliteValue.parts (.agg #[.pointer (some ⟨2, 37, none⟩), .pointer (some ⟨gb, 0, none⟩), .int .u64 153]) >>= fun q => _) _ = _
  simp only [Sem.run_bind, partsMa, partsM, Result.andThen]
  simp [ReflectliteValue.flagAddr, hl, Result.andThen, directM, storeVar, Value.cells, storeCells, Addr.add]
  rw [run_store Tryd.prog W ⟨gt, 0, none⟩ _ _ (by rfl)]
  simp [c0, f0]
abbrev rvP (a : Nat) : Value := .agg #[.pointer (some ⟨2, 39, none⟩), .pointer (some ⟨a, 0, none⟩), .int .u64 150]
set_option maxHeartbeats 4000000 in
theorem asHit_any (gt : Nat) (n : Int) (old : Value) (w : World) (hg : w.cell? ⟨0, 0, none⟩ = some (.iface 85 (.agg #[.pointer (some ⟨2, 33, none⟩)]))) (ht : w.heap[gt]? = some (.cells #[old] 37 (0, 0))) :
    Calls Tryd.prog 11 #[.iface 37 (.agg #[.int .i64 n]), .iface 39 (.pointer (some ⟨gt, 0, none⟩))] w fun ev w' => ev = .returned (.bool true) ∧ w' = ((((w.alloc (.cells #[.pointer (some ⟨gt, 0, none⟩)] 39)).alloc (.cells #[.pointer (some ⟨2, 39, none⟩), .pointer (some ⟨w.heap.size, 0, none⟩), .int .u64 150] 64)).alloc (.cells #[.pointer (some ⟨2, 39, none⟩), .pointer (some ⟨w.heap.size, 0, none⟩), .int .u64 150] 64)).alloc (.cells #[.int .i64 n] 37)).setCell ⟨gt, 0, none⟩ (.int .i64 n) := by
  have h6 := @run_callFunc_extern Tryd.prog 22 _ (fun args => ReflectliteValue.unpack (args.getD 0 (.tuple #[]))) Tryd.func22 (by kernel_rfl) (by kernel_rfl) (by kernel_rfl) (by kernel_rfl)
  have h7 := @run_callFunc_extern Tryd.prog 23 _ (ReflectliteValue.methodAny (ReflectliteValue.valueError "reflectlite.Value.Type" 0) (fun t _ _ _ => ReflectliteType.toType t)) Tryd.func23 (by kernel_rfl) (by kernel_rfl) (by kernel_rfl) (by kernel_rfl)
  have h8 := @run_callFunc_extern Tryd.prog 24 _ (ReflectliteValue.method (ReflectliteValue.valueError "reflectlite.Value.IsNil" 0) ReflectliteValue.isNil) Tryd.func24 (by kernel_rfl) (by kernel_rfl) (by kernel_rfl) (by kernel_rfl)
  have h27 := @run_callFunc_extern Tryd.prog 64 _ (ReflectliteType.abiMethod fun t => do pure (.int .u8 (← Rtype.kind t))) Tryd.func64 (by kernel_rfl) (by kernel_rfl) (by kernel_rfl) (by kernel_rfl)
  have h37 := @run_callFunc_extern Tryd.prog 76 _ (ReflectliteType.method ReflectliteType.elem) Tryd.func76 (by kernel_rfl) (by kernel_rfl) (by kernel_rfl) (by kernel_rfl)
  have h38 := @run_callFunc_extern Tryd.prog 77 _ (ReflectliteType.relation "Implements" ReflectliteType.implements_) Tryd.func77 (by kernel_rfl) (by kernel_rfl) (by kernel_rfl) (by kernel_rfl)
  have h10 := @run_callFunc_extern Tryd.prog 37 _ ReflectliteType.typeOf Tryd.func37 (by kernel_rfl) (by kernel_rfl) (by kernel_rfl) (by kernel_rfl)
  have h35 := @run_callFunc_extern Tryd.prog 74 _ (ReflectliteType.relation "AssignableTo" ReflectliteType.assignableTo) Tryd.func74 (by kernel_rfl) (by kernel_rfl) (by kernel_rfl) (by kernel_rfl)
  have h11 := @run_callFunc_extern Tryd.prog 38 _ (ReflectliteValue.method (ReflectliteValue.valueError "reflectlite.Value.Elem" 0) ReflectliteValue.elem) Tryd.func38 (by kernel_rfl) (by kernel_rfl) (by kernel_rfl) (by kernel_rfl)
  have h12 := @run_callFunc_extern Tryd.prog 39 _ ReflectliteValue.set Tryd.func39 (by kernel_rfl) (by kernel_rfl) (by kernel_rfl) (by kernel_rfl)
  have tO := typeOfM
  have mA := methodAssE
  have a25 := assM
  have v25 := valueOfM
  have f6 := valueOfP
  have f7 := typeP
  have mK := methodKindE
  have mE := methodElemE
  have mI := methodImplE
  have k27 := kindP
  have k25 := kindM
  have e27 := elemP
  have i25 := implM
  obtain ⟨Wa, hWa⟩ : ∃ Wa, Wa = (w.alloc (.cells #[.pointer (some ⟨gt, 0, none⟩)] 39)).alloc (.cells #[.pointer (some ⟨2, 39, none⟩), .pointer (some ⟨w.heap.size, 0, none⟩), .int .u64 150] 64) := ⟨_, rfl⟩
  obtain ⟨Wb, hWb⟩ : ∃ Wb, Wb = Wa.alloc (.cells #[.pointer (some ⟨2, 39, none⟩), .pointer (some ⟨w.heap.size, 0, none⟩), .int .u64 150] 64) := ⟨_, rfl⟩
  have hsa : Wa.heap.size = w.heap.size + 1 + 1 := by rw [hWa, World.size_alloc, World.size_alloc]
  have hsb : Wb.heap.size = w.heap.size + 1 + 1 + 1 := by rw [hWb, World.size_alloc, hsa]
  have hba : Below w.heap.size w Wa := by rw [hWa]; exact ((Below.refl w.heap.size w).alloc (Nat.le_refl _) _).alloc (by rw [World.size_alloc]; omega) _
  have hbb : Below w.heap.size w Wb := by rw [hWb]; exact hba.alloc (by omega) _
  have hbc : Below w.heap.size w (Wb.alloc (.cells #[.int .i64 n] 37)) := hbb.alloc (by omega) _
  have hlt : 0 < w.heap.size := by
    rcases Nat.lt_or_ge 0 w.heap.size with h | h
    · exact h
    · simp [World.cell?, Array.getElem?_eq_none h] at hg
  have htl : gt < w.heap.size := (Array.getElem?_eq_some_iff.1 ht).1
  have hg2 := (hba.cell (p := ⟨0, 0, none⟩) hlt).trans hg
  have hp : ∀ W, Below (w.heap.size + 1) (w.alloc (.cells #[.pointer (some ⟨gt, 0, none⟩)] 39)) W → W.cell? ⟨w.heap.size, 0, none⟩ = some (.pointer (some ⟨gt, 0, none⟩)) := fun W h => by
    have e := (h.block w.heap.size (by omega)).trans (heap_alloc_new w (.cells #[.pointer (some ⟨gt, 0, none⟩)] 39))
    exact cell_of_row W _ 0 _ _ (0, 0) e
  have hpa : Below (w.heap.size + 1) (w.alloc (.cells #[.pointer (some ⟨gt, 0, none⟩)] 39)) Wa := by rw [hWa]; exact (Below.refl _ _).alloc (by rw [World.size_alloc]; omega) _
  have hpb : Below (w.heap.size + 1) (w.alloc (.cells #[.pointer (some ⟨gt, 0, none⟩)] 39)) Wb := by rw [hWb]; exact hpa.alloc (by omega) _
  have n8 := isNilP ⟨w.heap.size, 0, none⟩ ⟨gt, 0, none⟩ Wa (hp Wa hpa)
  have el := elemVP ⟨w.heap.size, 0, none⟩ ⟨gt, 0, none⟩ Wb (hp Wb hpb)
  have st := setM gt Wb.heap.size n old (Wb.alloc (.cells #[.int .i64 n] 37)) (heap_alloc_new Wb _) ((hbc.block gt htl).trans ht)
  rw [hsb] at st
  rw [hWb] at el st
  rw [hWa] at n8 el st hg2
  clear hWa hWb hsa hsb hba hbb hbc hp hpa hpb ht hg
  go_enter Tryd.func11, Tryd.ntmps11
  go_wp2
  refine wp_loop_rounds 1 ?_
  rw [rounds_succ]
  go_wp2
  go_ret
  exact ⟨rfl, rfl⟩
end Go.Proofs.YtfoncmeplofedaqDoor
