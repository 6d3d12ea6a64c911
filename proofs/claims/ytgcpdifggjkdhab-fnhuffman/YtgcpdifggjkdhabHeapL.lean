/- CONTRACTS: the heap of groups: Less, Swap. -/
import Derived.Test.YtgcpdifggjkdhabHeapX
import Derived.Deep.RegionWith
import Derived.Laws.OwnMore
import Derived.Lib.Hide
namespace Go.Proofs.Ytgcpdifggjkdhab
open Go.RowKit
set_option linter.unusedVariables false
def flatI (hs : List It) : List Value := hs.flatMap itC
theorem flatI_len (hs : List It) : (flatI hs).length = hs.length * 3 := by
  induction hs with
  | nil => rfl
  | cons a t ih =>
    have e : flatI (a :: t) = itC a ++ flatI t := by simp [flatI]
    rw [e, List.length_append, ih, List.length_cons]
    show 3 + t.length * 3 = _
    omega
theorem flatI_get : ∀ (hs : List It) (i : Nat) (x : It), hs[i]? = some x → ∀ j, j < 3 → (flatI hs)[i * 3 + j]? = (itC x)[j]? := by
  intro hs
  induction hs with
  | nil => intro i x h; simp at h
  | cons a t ih =>
    intro i x h j hj
    have e : flatI (a :: t) = itC a ++ flatI t := by simp [flatI]
    have hl : (itC a).length = 3 := rfl
    rw [e]
    cases i with
    | zero =>
      simp at h
      subst h
      rw [Nat.zero_mul, Nat.zero_add, List.getElem?_append_left (by omega)]
    | succ i =>
      simp at h
      rw [List.getElem?_append_right (by omega), hl, show (i + 1) * 3 + j - 3 = i * 3 + j by omega]
      exact ih i x h j hj
/-- the heap's row -/
def HRow (B g cap : Nat) (hs : List It) (w : World) : Prop := w.ownsRow B 73 3 (.slice (some ⟨g, 0, none⟩) hs.length cap) hs.length (flatI hs)
theorem HRow.range {B g cap : Nat} {hs : List It} {w : World} (h : HRow B g cap hs w) {i : Nat} {x : It} (hx : hs[i]? = some x) : w.rangeAt g (i * 3) (itC x) := fun j v hv => by
  have hj : j < 3 := (List.getElem?_eq_some_iff.1 hv).1
  have hi : i < hs.length := (List.getElem?_eq_some_iff.1 hx).1
  have e := World.ownsRow.cells h (g := g) rfl (i * 3 + j) v (by rw [flatI_get hs i x hx j hj]; exact hv)
  simpa [Addr.add_mid] using e
theorem HRow.cells {B g cap : Nat} {hs : List It} {w : World} (h : HRow B g cap hs w) {i : Nat} {x : It} (hx : hs[i]? = some x) :
    w.cell? ⟨g, i * 3, none⟩ = some (.int .i64 (x.1 : Int)) ∧ w.cell? ⟨g, i * 3 + 1, none⟩ = some (.int .i64 (x.2.1 : Int)) ∧ w.cell? ⟨g, i * 3 + 2, none⟩ = some (.slice x.2.2.1 x.2.2.2.1 x.2.2.2.2) := by
  have r := h.range hx
  exact ⟨r 0 _ rfl, r 1 _ rfl, r 2 _ rfl⟩
set_option maxHeartbeats 1000000 in
set_option maxRecDepth 100000 in
theorem less5_any (B g cap : Nat) (hs : List It) (w : World) (h : HRow B g cap hs w) (i j : Nat) (x y : It) (hx : hs[i]? = some x) (hy : hs[j]? = some y) (hn : hs.length ≤ 1000) :
    Calls Try.prog 144 #[.slice (some ⟨g, 0, none⟩) hs.length cap, .int .i64 (i : Int), .int .i64 (j : Int)] w fun e w' => e = .returned (.bool (ltI x y)) ∧ Below w.heap.size w w' := by
  have hi : i < hs.length := (List.getElem?_eq_some_iff.1 hx).1
  have hj : j < hs.length := (List.getElem?_eq_some_iff.1 hy).1
  have hgl := (World.ownsRow.lt h g rfl).2
  obtain ⟨r10, r11, r12⟩ := h.cells hx
  obtain ⟨r20, r21, r22⟩ := h.cells hy
  have ma := fun z W => meth_ahead z W
  obtain ⟨n, hnn⟩ : ∃ n, n = hs.length := ⟨_, rfl⟩
  rw [← hnn] at hi hj hn ⊢
  clear hx hy h hnn
  go_enter Try.func144, Try.ntmps144
  go_wp2
  go_region_with (first | (go_at_call 146; refine (ahead5_any x y _).mono ?_; rintro e w2 ⟨rfl, hb2⟩))
  all_goals
    have hB := ((Below.refl w.heap.size w).drew).trans hb2
    go_wp2
    go_ret
    exact ⟨rfl, hB⟩
theorem flatI_set : ∀ (hs : List It) (i : Nat) (y : It), i < hs.length → (((flatI hs).set (i * 3) (.int .i64 (y.1 : Int))).set (i * 3 + 1) (.int .i64 (y.2.1 : Int))).set (i * 3 + 2) (.slice y.2.2.1 y.2.2.2.1 y.2.2.2.2) = flatI (hs.set i y) := by
  intro hs
  induction hs with
  | nil => intro i y h; simp at h
  | cons a t ih =>
    intro i y h
    have e : ∀ a t, flatI (a :: t) = itC a ++ flatI t := fun a t => by simp [flatI]
    cases i with
    | zero => rw [e, List.set_cons_zero, e]; rfl
    | succ i =>
      have hl : (itC a).length = 3 := rfl
      have h2 := ih i y (by simpa using h)
      rw [e, List.set_cons_succ, e, ← h2]
      rw [List.set_append_right _ _ (by omega), List.set_append_right _ _ (by omega), List.set_append_right _ _ (by omega), hl]
      rw [show (i + 1) * 3 - 3 = i * 3 by omega, show (i + 1) * 3 + 1 - 3 = i * 3 + 1 by omega, show (i + 1) * 3 + 2 - 3 = i * 3 + 2 by omega]
/-- an item is laid over another one -/
def laid3 (w : World) (g i : Nat) (y : It) : World := ((w.setCell ⟨g, i * 3, none⟩ (.int .i64 (y.1 : Int))).setCell ⟨g, i * 3 + 1, none⟩ (.int .i64 (y.2.1 : Int))).setCell ⟨g, i * 3 + 2, none⟩ (.slice y.2.2.1 y.2.2.2.1 y.2.2.2.2)
theorem HRow.laid {B g cap : Nat} {hs : List It} {w : World} (h : HRow B g cap hs w) {i : Nat} (hi : i < hs.length) (y : It) : HRow B g cap (hs.set i y) (laid3 w g i y) ∧ w.grownBy (laid3 w g i y) (some g) := by
  have h1 := World.ownsRow.stored h (i * 3) (.int .i64 (y.1 : Int))
  have h2 := World.ownsRow.stored h1.1 (i * 3 + 1) (.int .i64 (y.2.1 : Int))
  have h3 := World.ownsRow.stored h2.1 (i * 3 + 2) (.slice y.2.2.1 y.2.2.2.1 y.2.2.2.2)
  rw [flatI_set hs i y hi] at h3
  refine ⟨?_, grown_trans h1.2 (grown_trans h2.2 h3.2)⟩
  unfold HRow
  rw [List.length_set]
  exact h3.1
set_option maxHeartbeats 400000 in
set_option maxRecDepth 100000 in
theorem swap5_any (B g cap : Nat) (hs : List It) (w : World) (h : HRow B g cap hs w) (i j : Nat) (x y : It) (hx : hs[i]? = some x) (hy : hs[j]? = some y) (hn : hs.length ≤ 1000) :
    Calls Try.prog 145 #[.slice (some ⟨g, 0, none⟩) hs.length cap, .int .i64 (i : Int), .int .i64 (j : Int)] w fun e w' => e = .returned (.tuple #[]) ∧ HRow B g cap ((hs.set i y).set j x) w' ∧ w.grownBy w' (some g) := by
  have hi : i < hs.length := (List.getElem?_eq_some_iff.1 hx).1
  have hj : j < hs.length := (List.getElem?_eq_some_iff.1 hy).1
  obtain ⟨r10, r11, r12⟩ := h.cells hx
  obtain ⟨r20, r21, r22⟩ := h.cells hy
  have fz := fun k => World.ownsRow.frozenAt h k
  have f10 := fz (i * 3)
  have f11 := fz (i * 3 + 1)
  have f12 := fz (i * 3 + 2)
  have f20 := fz (j * 3)
  have f21 := fz (j * 3 + 1)
  have f22 := fz (j * 3 + 2)
  have l1 := h.laid hi y
  have l2 := l1.1.laid (i := j) (by rw [List.length_set]; exact hj) x
  have hl := And.intro l2.1 (grown_trans l1.2 l2.2)
  unfold laid3 at hl
  have hld := And.intro (World.ownsRow.drew hl.1) (grown_drew hl.2)
  have HL := Lib.hid hl
  have HLD := Lib.hid hld
  clear hl hld
  obtain ⟨n, hnn⟩ : ∃ n, n = hs.length := ⟨_, rfl⟩
  rw [← hnn] at hi hj hn ⊢
  have hgl := (World.ownsRow.lt h g rfl).2
  clear fz l1 l2
  by_cases hij : i = j
  focus
    subst hij
    obtain rfl : x = y := Option.some.inj (hx.symm.trans hy)
    clear hx hy h hnn
    go_enter Try.func145, Try.ntmps145
    go_wp2
    go_region
    all_goals
      go_wp2
      go_end0
      first | exact ⟨rfl, HLD.out.1, HLD.out.2⟩ | exact ⟨rfl, HL.out.1, HL.out.2⟩
  have n0 : ¬ i * 3 = j * 3 := by omega
  have n1 : ¬ i * 3 + 1 = j * 3 + 1 := by omega
  have n2 : ¬ i * 3 + 2 = j * 3 + 2 := by omega
  have n0' : ¬ j * 3 = i * 3 := by omega
  have n1' : ¬ j * 3 + 1 = i * 3 + 1 := by omega
  have n2' : ¬ j * 3 + 2 = i * 3 + 2 := by omega
  clear hx hy h hnn
  go_enter Try.func145, Try.ntmps145
  go_wp2
  go_region
  all_goals
    go_wp2
    go_end0
    first | exact ⟨rfl, HLD.out.1, HLD.out.2⟩ | exact ⟨rfl, HL.out.1, HL.out.2⟩
end Go.Proofs.Ytgcpdifggjkdhab
