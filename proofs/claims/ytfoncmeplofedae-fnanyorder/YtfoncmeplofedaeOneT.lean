/- A text that was just laid is there. -/
import Derived.Test.YtfoncmeplofedaeBasis
namespace Go.Proofs.Ytfoncmeplofedae
open Go.RowKit
theorem one_text (w : World) (x : ByteArray) (t : TypeId) : ∀ j u, ([Value.string x] : List Value)[j]? = some u → (w.alloc (.cells #[Value.string x] t)).cell? ((⟨w.heap.size, 0, none⟩ : Addr).add j) = some u := by
  intro j u hj
  match j, hj with
  | 0, hj => simp at hj; subst hj; simp [Addr.add]
end Go.Proofs.Ytfoncmeplofedae
