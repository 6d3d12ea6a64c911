/- HOW A LAW's ARGUMENT IS READ THAT IS A NOTE, A ROW OF NOTES. It speaks of no function of the program. -/
import Derived.Test.YtfoncmeplofedaqArgs
import Derived.Test.YtfoncmeplofedaqNtm
import Derived.Deep.Slices
import Derived.Lib.SmallJoins
namespace Go.Proofs.Ytfoncmeplofedaq
open Go.ChangeShapes Go.WideShapes Go.ChangeAt Go.RowKit Go.Joins
theorem Try.cellsNote : Try.prog.cellsOf 43 = 3 := by kernel_rfl
/-- a note's text is the machine's -/
def NtWf (p : Nt) : Prop := p.2.2.size ≤ 9223372036854775807
set_option maxRecDepth 100000 in
theorem arg_note {H : Type} {enc : TypeId × Value → H} {w : World} {base : Nat} {spare : Nat → Bool} {held : Bool} {r : Reach} {b0 : Nat} {v : Value} {d : DataW H} {p : List MemPlace}
    (hv : Value.okWide Try.prog w r b0 43 v) (h : DataW.Trod enc Try.prog w base spare held 43 v d p) :
    ∃ (x y : Int) (t : ByteArray), v = .agg #[.int .i64 x, .int .i64 y, .string t] ∧ t.size ≤ 9223372036854775807 := by
  obtain ⟨c0, c1, c2, y0, y1, y2, m, rfl, rfl, rfl, hy0, hy1, hy2⟩ := open_agg3 Try.underlying43 (by kernel_rfl) Try.cellsNote hv h
  obtain ⟨x, e0, _, wx⟩ := DataW.trod_int Try.underlying2 hy0
  obtain ⟨y, e1, _, wy⟩ := DataW.trod_int Try.underlying2 hy1
  obtain ⟨t, e2, _, wt⟩ := DataW.trod_string Try.underlying9 hy2
  simp at e0 e1 e2
  subst e0 e1 e2
  exact ⟨x, y, t, rfl, wt⟩
end Go.Proofs.Ytfoncmeplofedaq
