/- The heap of groups: how its methods are reached. -/
import Derived.Test.YtgcpdifggjkdhabShort
import Derived.Deep.MidRow
namespace Go.Proofs.Ytgcpdifggjkdhab
open Go.RowKit
set_option linter.unusedVariables false
theorem wrap_some (a : Array TypeId) (t : TypeId) (p : Addr) (x y : String) : Builtin.ssaWrapNilChk_ a t #[.pointer (some p), strVal x, strVal y] = pure (.pointer (some p)) := rfl
theorem meth_at (name : String) (f : Nat) (hm : (Try.prog.info? 111).map (fun i => (i.methods.find? (·.name == name)).map fun m => (m.path, m.func)) = some (some (#[], some (f, false)))) (p : Addr) (w : World) (v : Value) (hv : (loadVar 69 p).run Try.prog w = .ok v w) : (method 261 111 (.pointer (some p)) name).run Try.prog w = .ok (f, v) w := by
  obtain ⟨i, hi, hm2⟩ := Option.map_eq_some_iff.1 hm
  obtain ⟨m, hm3, hm4⟩ := Option.map_eq_some_iff.1 hm2
  obtain ⟨h1, h2⟩ := Prod.mk.inj hm4
  unfold method
  simp [typeInfo, hi, hm3, h1, h2, follow, receiverAt, Place.get, run_underlying Try.underlying111, hv, wrap_some, asAddr]
theorem load_box (b : Nat) (w : World) (ao : Option Addr) (n cap : Nat) (hb : w.heap[b]? = some (.cells #[.slice ao n cap] 69 (0, 0))) : (loadVar 69 ⟨b, 0, none⟩).run Try.prog w = .ok (.slice ao n cap) w := by
  have hc : w.cell? ⟨b, 0, none⟩ = some (.slice ao n cap) := by rw [cell_of_row w b 0 _ _ (0, 0) hb]; rfl
  simp [loadVar, Sem.run_bind, isAgg, run_underlying Try.underlying69, hc]
theorem meth_len (b : Nat) (w : World) (ao : Option Addr) (n cap : Nat) (hb : w.heap[b]? = some (.cells #[.slice ao n cap] 69 (0, 0))) : (method 261 111 (.pointer (some ⟨b, 0, none⟩)) "Len").run Try.prog w = .ok (143, .slice ao n cap) w := meth_at "Len" _ (by kernel_rfl) _ w _ (load_box b w ao n cap hb)
theorem meth_less (b : Nat) (w : World) (ao : Option Addr) (n cap : Nat) (hb : w.heap[b]? = some (.cells #[.slice ao n cap] 69 (0, 0))) : (method 261 111 (.pointer (some ⟨b, 0, none⟩)) "Less").run Try.prog w = .ok (144, .slice ao n cap) w := meth_at "Less" _ (by kernel_rfl) _ w _ (load_box b w ao n cap hb)
theorem meth_swap (b : Nat) (w : World) (ao : Option Addr) (n cap : Nat) (hb : w.heap[b]? = some (.cells #[.slice ao n cap] 69 (0, 0))) : (method 261 111 (.pointer (some ⟨b, 0, none⟩)) "Swap").run Try.prog w = .ok (145, .slice ao n cap) w := meth_at "Swap" _ (by kernel_rfl) _ w _ (load_box b w ao n cap hb)
theorem meth_push (p : Addr) (w : World) : (method 261 111 (.pointer (some p)) "Push").run Try.prog w = .ok (149, .pointer (some p)) w := by kernel_rfl
theorem meth_pop (p : Addr) (w : World) : (method 261 111 (.pointer (some p)) "Pop").run Try.prog w = .ok (148, .pointer (some p)) w := by kernel_rfl
theorem meth_ahead (x : Array Value) (w : World) : (method 261 73 (.agg x) "loop.example/g00260/impl.ahead").run Try.prog w = .ok (146, .agg x) w := by kernel_rfl

/-- an item of the heap: its count, its first number, its numbers' slice -/
abbrev It := Nat × Nat × (Option Addr × Nat × Nat)
def slV (s : Option Addr × Nat × Nat) : Value := .slice s.1 s.2.1 s.2.2
def itV (x : It) : Value := .agg #[.int .i64 (x.1 : Int), .int .i64 (x.2.1 : Int), .slice x.2.2.1 x.2.2.2.1 x.2.2.2.2]
def itC (x : It) : List Value := [.int .i64 (x.1 : Int), .int .i64 (x.2.1 : Int), .slice x.2.2.1 x.2.2.2.1 x.2.2.2.2]
def ltI (x y : It) : Bool := decide (x.1 < y.1 ∨ (x.1 = y.1 ∧ x.2.1 < y.2.1))
set_option maxRecDepth 100000 in
theorem ahead5_any (x y : It) (w : World) : Calls Try.prog 146 #[itV x, itV y] w fun e w' => e = .returned (.bool (ltI x y)) ∧ Below w.heap.size w w' := by
  obtain ⟨c, f, v1, v2, v3⟩ := x
  obtain ⟨c', f', u1, u2, u3⟩ := y
  have hb := (Below.refl w.heap.size w).alloc (Nat.le_refl _) (.cells #[.int .i64 (c : Int), .int .i64 (f : Int), .slice v1 v2 v3] 73)
  have hb2 := hb.alloc (by simp) (.cells #[.int .i64 (c' : Int), .int .i64 (f' : Int), .slice u1 u2 u3] 73)
  by_cases h1 : c < c'
  · have e : ltI (c, f, v1, v2, v3) (c', f', u1, u2, u3) = true := by unfold ltI; simp [h1]
    rw [e]
    have hI : (c : Int) < (c' : Int) := by omega
    clear e
    unfold itV
    go_enter Try.func146, Try.ntmps146
    go_wp2
    go_ret
    exact ⟨rfl, hb2⟩
  · by_cases h2 : c = c'
    · subst h2
      have e : ltI (c, f, v1, v2, v3) (c, f', u1, u2, u3) = decide (f < f') := by unfold ltI; simp
      rw [e]
      have hI : ¬ (c : Int) < (c : Int) := by omega
      have hE : ((c : Int) == (c : Int)) = true := by simp
      clear e
      unfold itV
      go_enter Try.func146, Try.ntmps146
      go_wp2
      go_ret
      exact ⟨by first | rfl | (show Ending.returned (Value.bool (decide ((f : Int) < (f' : Int)))) = _; simp), hb2⟩
    · have e : ltI (c, f, v1, v2, v3) (c', f', u1, u2, u3) = false := by unfold ltI; simp; omega
      rw [e]
      have hI : ¬ (c : Int) < (c' : Int) := by omega
      have hE : ((c : Int) == (c' : Int)) = false := by simp; omega
      clear e
      unfold itV
      go_enter Try.func146, Try.ntmps146
      go_wp2
      go_ret
      exact ⟨rfl, hb2⟩
end Go.Proofs.Ytgcpdifggjkdhab
