/- CONTRACT: errors.Is of nothing, of a misfit that wraps errNoNote. (After the guide's contracts of errors.Is.) -/
import Derived.Test.YtfoncmeplofedaqGreatDoorBuna
import Derived.WalkKit
import Derived.LaidEql
import Derived.Stop.Asserts
import Derived.Stop.LaidErr
import Derived.RowKitTokens
import Derived.Lib.Hide
namespace Go.Proofs.YtfoncmeplofedaqGreatDoor
open Go.RowKit Go.Extern.Stop Go.Stop Go.Extern
set_option linter.unusedVariables false
/-- the program's errNoNote: some pointer to an errors.errorString -/
def NoNt (w : World) (b : Addr) : Prop := w.cell? ⟨0, 0, none⟩ = some (.iface 153 (.pointer (some b)))
theorem noNt_below {w w' : World} {b : Addr} (h : NoNt w b) (hb : Below w.heap.size w w') : NoNt w' b := by
  have hlt : 0 < w.heap.size := by
    rcases Nat.lt_or_ge 0 w.heap.size with h9 | h9
    · exact h9
    · unfold NoNt at h
      simp [World.cell?, Array.getElem?_eq_none h9] at h
  exact (hb.cell (p := ⟨0, 0, none⟩) hlt).trans h
theorem isTypeOfE (v : Value) (w : World) : (ReflectliteType.typeOf #[.iface 153 v]).run Tryz.prog w = .ok (.iface 97 (.agg #[.pointer (some ⟨1, 153, none⟩)])) w := by kernel_rfl
theorem isCompE (w : World) : ((ReflectliteType.method fun t => do Rtype.noPackHeld "Comparable" t; (fun a => Value.bool a.comparable) <$> typeInfo t) #[.agg #[.pointer (some ⟨1, 153, none⟩)]]).run Tryz.prog w = .ok (.bool true) w := by kernel_rfl
theorem isMethE (v : Value) (w : World) : (Go.method 291 97 v "Comparable").run Tryz.prog w = .ok (119, v) w := by kernel_rfl
theorem compE : (Tryz.prog.info? 153).map (·.comparable) = some true := by kernel_rfl
theorem sizeE : (Tryz.prog.info? 179).map (·.size) = some 1 := by kernel_rfl
theorem noIsM (v : Value) (xT : TypeId) (w : World) : (Instr.typeAssert (.iface 77 v) xT 99 true).run Tryz.prog w = .ok (.tuple #[.nilIface, .bool false]) w := run_typeAssert_lacksB Tryz.underlying99 (by kernel_rfl) (by kernel_rfl) v xT w
theorem hasUnM (v : Value) (xT : TypeId) (w : World) : (Instr.typeAssert (.iface 77 v) xT 102 true).run Tryz.prog w = .ok (.tuple #[.iface 77 v, .bool true]) w := run_typeAssert_hasB Tryz.underlying102 (by kernel_rfl) v xT w
theorem methUnM (x : Array Value) (w : World) : (Go.method 291 77 (.agg x) "Unwrap").run Tryz.prog w = .ok (114, .agg x) w := by kernel_rfl
theorem isNil_any (b : Addr) (w : World) :
    Calls Tryz.prog 21 #[.nilIface, .iface 153 (.pointer (some b))] w fun e w' => e = .returned (.bool false) ∧ w' = w := by
  have hn := run_eql_iface_nil_left (P := Tryz.prog) w 153 (.pointer (some b)) Tryz.underlying51
  go_enter Tryz.func21, Tryz.ntmps21
  go_wp2
  go_ret
  exact ⟨rfl, rfl⟩
set_option maxHeartbeats 4000000 in
set_option maxRecDepth 100000 in
theorem isMis_any (n : Int) (b : Addr) (w : World) (hg : NoNt w b) :
    Calls Tryz.prog 21 #[.iface 77 (.agg #[.int .i64 n]), .iface 153 (.pointer (some b))] w fun e w' => e = .returned (.bool true) ∧ Below w.heap.size w w' := by
  obtain ⟨i, hi, hcmp⟩ := Option.map_eq_some_iff.1 compE
  obtain ⟨j, hj, hjs⟩ := Option.map_eq_some_iff.1 sizeE
  have h8 := @run_callFunc_extern Tryz.prog 38 _ ReflectliteType.typeOf Tryz.func38 (by kernel_rfl) (by kernel_rfl) (by kernel_rfl) (by kernel_rfl)
  have h32 := @run_callFunc_extern Tryz.prog 119 _ (ReflectliteType.method fun t => do Rtype.noPackHeld "Comparable" t; pure (.bool (← typeInfo t).comparable)) Tryz.func119 (by kernel_rfl) (by kernel_rfl) (by kernel_rfl) (by kernel_rfl)
  have tT := isTypeOfE
  have cT := isCompE
  have mR := isMethE
  have nM := noIsM
  have uM := hasUnM
  have mU := methUnM
  have hbA : Below w.heap.size w (w.alloc (.cells #[.int .i64 n] 77)) := (Below.refl _ _).alloc (Nat.le_refl _) _
  have HBA := Lib.hid hbA
  have heq := run_eql_iface_ptr_same (P := Tryz.prog) (w.alloc (.cells #[.int .i64 n] 77)) b Tryz.underlying51 Tryz.underlying153 hi hcmp hj
  have hty := run_eql_iface_types (P := Tryz.prog) 77 153 (.agg #[.int .i64 n]) (.pointer (some b)) Tryz.underlying51 (by decide) w
  have hg9 : (w.alloc (.cells #[.int .i64 n] 77)).cell? ⟨0, 0, none⟩ = some (.iface 153 (.pointer (some b))) := noNt_below hg hbA
  clear hg hbA
  go_enter Tryz.func21, Tryz.ntmps21
  go_wp2
  refine wp_loop_rounds 2 ?_
  rw [rounds_succ]
  go_wp2
  rw [rounds_succ]
  go_wp2
  go_ret
  exact ⟨rfl, HBA.out⟩
end Go.Proofs.YtfoncmeplofedaqGreatDoor
