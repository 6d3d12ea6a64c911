/- errNoNote (listed in the row): what the row's condition gives of it. -/
import Derived.Test.YtfoncmeplofedaqGreatDoorIsE
import Derived.Test.YtfoncmeplofedaqGreatDoorRows
import Derived.LaidMore
import Derived.Stop.LaidErr
namespace Go.Proofs.YtfoncmeplofedaqGreatDoor
open Go.RowKit Go.ChangeShapes Go.WideShapes
theorem noNtG : Tryz.prog.globalNamed "loop.example/g00260/impl.errNoNote" = some 0 := by kernel_rfl
theorem noNtGT : (Tryz.prog.globals[0]?).map (·.type) = some 51 := by kernel_rfl
theorem noNtC1 : Tryz.prog.cellsOf 179 = 1 := by kernel_rfl
theorem noNtC2 : Tryz.prog.cellsOf 9 = 1 := by kernel_rfl
theorem noNtStar : "*" ++ "errors.errorString" = "*errors.errorString" := by decide
theorem noNtRow (u : TypeId) (h : Tryz.prog.typeName? 3 u = some "*errors.errorString") : u = 153 :=
  typeName_ptr_named (nm := "errors.errorString") (by rw [noNtStar]; kernel_rfl) (by kernel_rfl) (by decide) u (by rw [noNtStar]; exact h)
theorem noNt_of {W : World} {r : List (String × DataW Unit)} (h : laidMet Tryz.prog (("loop.example/g00260/impl.errNoNote", Rows.laid_loop_example_g00260_impl_errNoNote) :: r) W) : ∃ b, NoNt W b := by
  obtain ⟨a, s, hv, _⟩ := laid_sentinel h noNtG noNtGT Tryz.underlying51 noNtRow Tryz.underlying153 Tryz.underlying179 rfl rfl Tryz.underlying9 noNtC1 noNtC2
  exact ⟨a, by simpa [NoNt] using World.var?_cell noNtG hv 0⟩
theorem noNt_var1 {W : World} {r : List (String × DataW Unit)} (h : laidMet Tryz.prog (("loop.example/g00260/impl.errNoNote", Rows.laid_loop_example_g00260_impl_errNoNote) :: r) W) : ∃ b : Addr, W.var? Tryz.prog "loop.example/g00260/impl.errNoNote" = some #[.iface 153 (.pointer (some b))] := by
  obtain ⟨a, s, hv, _⟩ := laid_sentinel h noNtG noNtGT Tryz.underlying51 noNtRow Tryz.underlying153 Tryz.underlying179 rfl rfl Tryz.underlying9 noNtC1 noNtC2
  exact ⟨a, hv⟩
theorem noNt_varB {W W' : World} {x : Value} (h : W.var? Tryz.prog "loop.example/g00260/impl.errNoNote" = some #[x]) (hb : Below W.heap.size W W') : W'.var? Tryz.prog "loop.example/g00260/impl.errNoNote" = some #[x] := by
  unfold World.var? at h ⊢
  rw [noNtG] at h ⊢
  simp only [Option.bind_some] at h ⊢
  have hlt : 0 < W.heap.size := by
    rcases Nat.lt_or_ge 0 W.heap.size with h' | h'
    · exact h'
    · rw [Array.getElem?_eq_none h'] at h; cases h
  rw [hb.block _ hlt]
  exact h
theorem noNt_varH {W : World} (h : laidMetH Tryz.prog [("loop.example/g00260/impl.errNoNote", Rows.laid_loop_example_g00260_impl_errNoNote)] W) : ∃ b : Addr, W.var? Tryz.prog "loop.example/g00260/impl.errNoNote" = some #[.iface 153 (.pointer (some b))] := by
  rw [MakeChecks.laidMetH_plain _ _ _ (by kernel_rfl)] at h
  exact noNt_var1 h
end Go.Proofs.YtfoncmeplofedaqGreatDoor
