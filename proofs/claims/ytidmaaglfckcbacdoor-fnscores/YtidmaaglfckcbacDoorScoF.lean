/- THE LIBRARY's slices.SortFunc at rows of scores at this cut: its closure by name, in plain words (after the guide's plain mode); its contract over an owned row. (Written by sortgen.py.) -/
import Derived.Shelf.SlSortCmp.NoneTotal
import Derived.Test.YtidmaaglfckcbacDoorScoB
namespace Go.Proofs.YtidmaaglfckcbacDoor
open Go.Shelf Go.RowKit
set_option linter.unusedVariables false
def sofRen : Go.Shelf.Ren := ⟨fun | 6 => 58 | 14 => 74 | 15 => 75 | 20 => 83 | 21 => 84 | 22 => 85 | 23 => 86 | 24 => 87 | 25 => 88 | 26 => 89 | 27 => 90 | 28 => 91 | 29 => 92 | 46 => 99 | 47 => 100 | 48 => 101 | 49 => 102 | 50 => 103 | 57 => 109 | n => n, fun | 0 => 0 | 3 => 3 | 4 => 4 | 5 => 5 | 9 => 9 | 22 => 75 | 24 => 77 | 25 => 80 | 39 => 102 | 45 => 110 | 46 => 111 | 50 => 52 | 53 => 117 | 55 => 119 | 66 => 127 | 70 => 131 | 76 => 138 | 77 => 139 | n => n, fun n => n⟩
set_option maxRecDepth 100000 in
theorem sofLays : SlLaysF0.n6 Tryd.prog sofRen := {
  mixed := by kernel_rfl,
  f6 := ⟨Tryd.f58.name, by decide, Tryd.func58.trans (congrArg some (by kernel_rfl))⟩,
  f14 := ⟨Tryd.f74.name, by decide, Tryd.func74.trans (congrArg some (by kernel_rfl))⟩,
  f15 := Tryd.func75.trans (congrArg some (by kernel_rfl)),
  f20 := ⟨Tryd.f83.name, by decide, Tryd.func83.trans (congrArg some (by kernel_rfl))⟩,
  f21 := ⟨Tryd.f84.name, by decide, Tryd.func84.trans (congrArg some (by kernel_rfl))⟩,
  f22 := ⟨Tryd.f85.name, by decide, Tryd.func85.trans (congrArg some (by kernel_rfl))⟩,
  f23 := ⟨Tryd.f86.name, by decide, Tryd.func86.trans (congrArg some (by kernel_rfl))⟩,
  f24 := ⟨Tryd.f87.name, by decide, Tryd.func87.trans (congrArg some (by kernel_rfl))⟩,
  f25 := ⟨Tryd.f88.name, by decide, Tryd.func88.trans (congrArg some (by kernel_rfl))⟩,
  f26 := ⟨Tryd.f89.name, by decide, Tryd.func89.trans (congrArg some (by kernel_rfl))⟩,
  f27 := ⟨Tryd.f90.name, by decide, Tryd.func90.trans (congrArg some (by kernel_rfl))⟩,
  f28 := Tryd.func91.trans (congrArg some (by kernel_rfl)),
  f29 := Tryd.func92.trans (congrArg some (by kernel_rfl)),
  f46 := ⟨Tryd.f99.name, by decide, Tryd.func99.trans (congrArg some (by kernel_rfl))⟩,
  f47 := Tryd.func100.trans (congrArg some (by kernel_rfl)),
  f48 := Tryd.func101.trans (congrArg some (by kernel_rfl)),
  f49 := ⟨Tryd.f102.name, by decide, Tryd.func102.trans (congrArg some (by kernel_rfl))⟩,
  f50 := ⟨Tryd.f103.name, by decide, Tryd.func103.trans (congrArg some (by kernel_rfl))⟩,
  f57 := ⟨Tryd.f109.name, by decide, Tryd.func109.trans (congrArg some (by kernel_rfl))⟩,
  t0 := Tryd.underlying0,
  a0 := Tryd.isAgg0,
  z0 := Tryd.sizeOf0,
  v0 := Tryd.zeroValue0,
  t3 := Tryd.underlying3,
  a3 := Tryd.isAgg3,
  z3 := Tryd.sizeOf3,
  v3 := Tryd.zeroValue3,
  t4 := Tryd.underlying4,
  a4 := Tryd.isAgg4,
  z4 := Tryd.sizeOf4,
  v4 := Tryd.zeroValue4,
  t5 := Tryd.underlying5,
  a5 := Tryd.isAgg5,
  z5 := Tryd.sizeOf5,
  v5 := Tryd.zeroValue5,
  t9 := Tryd.underlying9,
  a9 := Tryd.isAgg9,
  z9 := Tryd.sizeOf9,
  v9 := Tryd.zeroValue9,
  t22 := Tryd.underlying75,
  a22 := Tryd.isAgg75,
  z22 := Tryd.sizeOf75,
  v22 := Tryd.zeroValue75,
  t25 := Tryd.underlying80,
  a25 := Tryd.isAgg80,
  z25 := Tryd.sizeOf80,
  v25 := Tryd.zeroValue80,
  t39 := Tryd.underlying102,
  a39 := Tryd.isAgg102,
  z39 := Tryd.sizeOf102,
  v39 := Tryd.zeroValue102,
  t45 := Tryd.underlying110,
  a45 := Tryd.isAgg110,
  z45 := Tryd.sizeOf110,
  v45 := Tryd.zeroValue110,
  t46 := Tryd.underlying111,
  a46 := Tryd.isAgg111,
  z46 := Tryd.sizeOf111,
  v46 := Tryd.zeroValue111,
  t50 := Tryd.underlying52,
  a50 := Tryd.isAgg52,
  z50 := Tryd.sizeOf52,
  v50 := Tryd.zeroValue52,
  t53 := Tryd.underlying117,
  a53 := Tryd.isAgg117,
  z53 := Tryd.sizeOf117,
  v53 := Tryd.zeroValue117,
  t55 := Tryd.underlying119,
  a55 := Tryd.isAgg119,
  z55 := Tryd.sizeOf119,
  v55 := Tryd.zeroValue119,
  t66 := Tryd.underlying127,
  a66 := Tryd.isAgg127,
  z66 := Tryd.sizeOf127,
  v66 := Tryd.zeroValue127,
  t70 := Tryd.underlying131,
  a70 := Tryd.isAgg131,
  z70 := Tryd.sizeOf131,
  v70 := Tryd.zeroValue131,
  t76 := Tryd.underlying138,
  a76 := Tryd.isAgg138,
  z76 := Tryd.sizeOf138,
  v76 := Tryd.zeroValue138,
  t77 := Tryd.underlying139,
  a77 := Tryd.isAgg139,
  z77 := Tryd.sizeOf139,
  v77 := Tryd.zeroValue139 }
theorem ltOf_ag (x y : Dt) : ltOf agI x y = decide (y.1 < x.1 ∨ (x.1 = y.1 ∧ x.2 < y.2)) := by
  unfold ltOf agI orI cmpI
  by_cases h1 : y.1 < x.1
  · simp [h1]
  · by_cases h2 : x.1 < y.1
    · simp [h1, h2]; omega
    · have e : x.1 = y.1 := by omega
      by_cases h3 : x.2 < y.2
      · simp [e, h3]
      · by_cases h4 : y.2 < x.2 <;> simp [e, h3, h4]
theorem swo_ag : Sort.SWO (ltOf agI) where
  irrefl x := by rw [ltOf_ag]; simp
  trans x y z h1 h2 := by rw [ltOf_ag] at *; simp at *; omega
  ntrans x y z h1 h2 := by rw [ltOf_ag] at *; simp at *; omega
theorem ag_total (x y : Dt) (h1 : ltOf agI x y = false) (h2 : ltOf agI y x = false) : x = y := by
  rw [ltOf_ag] at *
  simp at *
  exact Prod.ext (by omega) (by omega)
theorem sorted_cmp (blk off size : Nat) (w : World) : CmpLays Tryd.prog 59 #[] dtf 2 agI blk off size w :=
  fun _ _ _ _ x y => against_any x.1 x.2 y.1 y.2 _
theorem sof_any (l : List Dt) (blk cap : Nat) (w : World) (hH : Sort.HoldsK dtf 2 w blk 0 l.toArray) (hblk : blk < w.heap.size) (hsz : l.length < 4611686018427387904) :
    Calls Tryd.prog 58 #[.slice (some ⟨blk, 0, none⟩) l.length cap, .func (.func 59) #[] #[]] w fun e w' =>
      e = .returned (.tuple #[]) ∧ ∃ n os, w' = sortWorldK dtf 2 w blk 0 n (l.mergeSort fun x y => !(ltOf agI) y x).toArray os := by
  have eg : ∀ args w, (callFunc 59 args).run Tryd.prog w = .ok (.enter 59 args) w := enters_of Tryd.func59 (by kernel_rfl) rfl
  have h := AnyQ.slices_SortFunc_total sofLays 2 Tryd.isAgg77 Tryd.sizeOf77 dtf dtW.len dtW.one agI swo_ag 59 #[] blk 0 cap l.toArray w eg (sorted_cmp blk 0 l.toArray.size w) hH hblk (by simpa using hsz) ag_total
  simp only [List.size_toArray] at h
  exact h
theorem sof_none (p : Option Addr) (cap : Nat) (fv : Value) (w : World) : Calls Tryd.prog 58 #[.slice p 0 cap, fv] w fun e w' => e = .returned (.tuple #[]) ∧ w' = w :=
  AnyF.slices_SortFunc_none sofLays p cap fv w

end Go.Proofs.YtidmaaglfckcbacDoor
