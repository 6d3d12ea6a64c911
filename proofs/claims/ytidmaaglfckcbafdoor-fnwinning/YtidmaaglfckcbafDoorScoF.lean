/- THE LIBRARY's slices.SortFunc at rows of scores at this cut: its closure by name, in plain words (after the guide's plain mode); its contract over an owned row. (Written by sortgen.py.) -/
import Derived.Shelf.SlSortCmp.NoneTotal
import Derived.Test.YtidmaaglfckcbafDoorScoB
namespace Go.Proofs.YtidmaaglfckcbafDoor
open Go.Shelf Go.RowKit
set_option linter.unusedVariables false
def sofRen : Go.Shelf.Ren := ⟨fun | 6 => 45 | 14 => 62 | 15 => 63 | 20 => 73 | 21 => 74 | 22 => 75 | 23 => 76 | 24 => 77 | 25 => 78 | 26 => 79 | 27 => 80 | 28 => 81 | 29 => 82 | 46 => 88 | 47 => 89 | 48 => 90 | 49 => 91 | 50 => 92 | 57 => 96 | n => n, fun | 0 => 0 | 3 => 3 | 4 => 4 | 5 => 5 | 9 => 9 | 22 => 65 | 24 => 67 | 25 => 70 | 39 => 78 | 45 => 105 | 46 => 106 | 50 => 60 | 53 => 112 | 55 => 97 | 66 => 119 | 70 => 123 | 76 => 126 | 77 => 127 | n => n, fun n => n⟩
set_option maxRecDepth 100000 in
theorem sofLays : SlLaysF0.n6 Tryd.prog sofRen := {
  mixed := by kernel_rfl,
  f6 := ⟨Tryd.f45.name, by decide, Tryd.func45.trans (congrArg some (by kernel_rfl))⟩,
  f14 := ⟨Tryd.f62.name, by decide, Tryd.func62.trans (congrArg some (by kernel_rfl))⟩,
  f15 := Tryd.func63.trans (congrArg some (by kernel_rfl)),
  f20 := ⟨Tryd.f73.name, by decide, Tryd.func73.trans (congrArg some (by kernel_rfl))⟩,
  f21 := ⟨Tryd.f74.name, by decide, Tryd.func74.trans (congrArg some (by kernel_rfl))⟩,
  f22 := ⟨Tryd.f75.name, by decide, Tryd.func75.trans (congrArg some (by kernel_rfl))⟩,
  f23 := ⟨Tryd.f76.name, by decide, Tryd.func76.trans (congrArg some (by kernel_rfl))⟩,
  f24 := ⟨Tryd.f77.name, by decide, Tryd.func77.trans (congrArg some (by kernel_rfl))⟩,
  f25 := ⟨Tryd.f78.name, by decide, Tryd.func78.trans (congrArg some (by kernel_rfl))⟩,
  f26 := ⟨Tryd.f79.name, by decide, Tryd.func79.trans (congrArg some (by kernel_rfl))⟩,
  f27 := ⟨Tryd.f80.name, by decide, Tryd.func80.trans (congrArg some (by kernel_rfl))⟩,
  f28 := Tryd.func81.trans (congrArg some (by kernel_rfl)),
  f29 := Tryd.func82.trans (congrArg some (by kernel_rfl)),
  f46 := ⟨Tryd.f88.name, by decide, Tryd.func88.trans (congrArg some (by kernel_rfl))⟩,
  f47 := Tryd.func89.trans (congrArg some (by kernel_rfl)),
  f48 := Tryd.func90.trans (congrArg some (by kernel_rfl)),
  f49 := ⟨Tryd.f91.name, by decide, Tryd.func91.trans (congrArg some (by kernel_rfl))⟩,
  f50 := ⟨Tryd.f92.name, by decide, Tryd.func92.trans (congrArg some (by kernel_rfl))⟩,
  f57 := ⟨Tryd.f96.name, by decide, Tryd.func96.trans (congrArg some (by kernel_rfl))⟩,
  t0 := Tryd.underlying0,
  a0 := Tryd.isAgg0,
  z0 := Tryd.sizeOf0,
  v0 := Tryd.zeroValue0,
  t3 := Tryd.underlying3,
  a3 := Tryd.isAgg3,
  z3 := Tryd.sizeOf3,
  v3 := Tryd.zeroValue3,
  t4 := Tryd.underlying4,
  a4 := Tryd.isAgg4,
  z4 := Tryd.sizeOf4,
  v4 := Tryd.zeroValue4,
  t5 := Tryd.underlying5,
  a5 := Tryd.isAgg5,
  z5 := Tryd.sizeOf5,
  v5 := Tryd.zeroValue5,
  t9 := Tryd.underlying9,
  a9 := Tryd.isAgg9,
  z9 := Tryd.sizeOf9,
  v9 := Tryd.zeroValue9,
  t22 := Tryd.underlying65,
  a22 := Tryd.isAgg65,
  z22 := Tryd.sizeOf65,
  v22 := Tryd.zeroValue65,
  t25 := Tryd.underlying70,
  a25 := Tryd.isAgg70,
  z25 := Tryd.sizeOf70,
  v25 := Tryd.zeroValue70,
  t39 := Tryd.underlying78,
  a39 := Tryd.isAgg78,
  z39 := Tryd.sizeOf78,
  v39 := Tryd.zeroValue78,
  t45 := Tryd.underlying105,
  a45 := Tryd.isAgg105,
  z45 := Tryd.sizeOf105,
  v45 := Tryd.zeroValue105,
  t46 := Tryd.underlying106,
  a46 := Tryd.isAgg106,
  z46 := Tryd.sizeOf106,
  v46 := Tryd.zeroValue106,
  t50 := Tryd.underlying60,
  a50 := Tryd.isAgg60,
  z50 := Tryd.sizeOf60,
  v50 := Tryd.zeroValue60,
  t53 := Tryd.underlying112,
  a53 := Tryd.isAgg112,
  z53 := Tryd.sizeOf112,
  v53 := Tryd.zeroValue112,
  t55 := Tryd.underlying97,
  a55 := Tryd.isAgg97,
  z55 := Tryd.sizeOf97,
  v55 := Tryd.zeroValue97,
  t66 := Tryd.underlying119,
  a66 := Tryd.isAgg119,
  z66 := Tryd.sizeOf119,
  v66 := Tryd.zeroValue119,
  t70 := Tryd.underlying123,
  a70 := Tryd.isAgg123,
  z70 := Tryd.sizeOf123,
  v70 := Tryd.zeroValue123,
  t76 := Tryd.underlying126,
  a76 := Tryd.isAgg126,
  z76 := Tryd.sizeOf126,
  v76 := Tryd.zeroValue126,
  t77 := Tryd.underlying127,
  a77 := Tryd.isAgg127,
  z77 := Tryd.sizeOf127,
  v77 := Tryd.zeroValue127 }
theorem ltOf_ag (x y : Dt) : ltOf agI x y = decide (y.1 < x.1 ∨ (x.1 = y.1 ∧ x.2 < y.2)) := by
  unfold ltOf agI orI cmpI
  by_cases h1 : y.1 < x.1
  · simp [h1]
  · by_cases h2 : x.1 < y.1
    · simp [h1, h2]; omega
    · have e : x.1 = y.1 := by omega
      by_cases h3 : x.2 < y.2
      · simp [e, h3]
      · by_cases h4 : y.2 < x.2 <;> simp [e, h3, h4]
theorem swo_ag : Sort.SWO (ltOf agI) where
  irrefl x := by rw [ltOf_ag]; simp
  trans x y z h1 h2 := by rw [ltOf_ag] at *; simp at *; omega
  ntrans x y z h1 h2 := by rw [ltOf_ag] at *; simp at *; omega
theorem ag_total (x y : Dt) (h1 : ltOf agI x y = false) (h2 : ltOf agI y x = false) : x = y := by
  rw [ltOf_ag] at *
  simp at *
  exact Prod.ext (by omega) (by omega)
theorem sorted_cmp (blk off size : Nat) (w : World) : CmpLays Tryd.prog 46 #[] dtf 2 agI blk off size w :=
  fun _ _ _ _ x y => against_any x.1 x.2 y.1 y.2 _
theorem sof_any (l : List Dt) (blk cap : Nat) (w : World) (hH : Sort.HoldsK dtf 2 w blk 0 l.toArray) (hblk : blk < w.heap.size) (hsz : l.length < 4611686018427387904) :
    Calls Tryd.prog 45 #[.slice (some ⟨blk, 0, none⟩) l.length cap, .func (.func 46) #[] #[]] w fun e w' =>
      e = .returned (.tuple #[]) ∧ ∃ n os, w' = sortWorldK dtf 2 w blk 0 n (l.mergeSort fun x y => !(ltOf agI) y x).toArray os := by
  have eg : ∀ args w, (callFunc 46 args).run Tryd.prog w = .ok (.enter 46 args) w := enters_of Tryd.func46 (by kernel_rfl) rfl
  have h := AnyQ.slices_SortFunc_total sofLays 2 Tryd.isAgg67 Tryd.sizeOf67 dtf dtW.len dtW.one agI swo_ag 46 #[] blk 0 cap l.toArray w eg (sorted_cmp blk 0 l.toArray.size w) hH hblk (by simpa using hsz) ag_total
  simp only [List.size_toArray] at h
  exact h
theorem sof_none (p : Option Addr) (cap : Nat) (fv : Value) (w : World) : Calls Tryd.prog 45 #[.slice p 0 cap, fv] w fun e w' => e = .returned (.tuple #[]) ∧ w' = w :=
  AnyF.slices_SortFunc_none sofLays p cap fv w

end Go.Proofs.YtidmaaglfckcbafDoor
