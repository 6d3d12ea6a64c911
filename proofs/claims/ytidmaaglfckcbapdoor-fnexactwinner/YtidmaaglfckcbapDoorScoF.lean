/- THE LIBRARY's slices.SortFunc at rows of scores at this cut: its closure by name, in plain words (after the guide's plain mode); its contract over an owned row. (Written by sortgen.py.) -/
import Derived.Shelf.SlSortCmp.NoneTotal
import Derived.Test.YtidmaaglfckcbapDoorScoB
namespace Go.Proofs.YtidmaaglfckcbapDoor
open Go.Shelf Go.RowKit
set_option linter.unusedVariables false
def sofRen : Go.Shelf.Ren := ⟨fun | 6 => 17 | 14 => 26 | 15 => 27 | 20 => 35 | 21 => 36 | 22 => 37 | 23 => 38 | 24 => 39 | 25 => 40 | 26 => 41 | 27 => 42 | 28 => 43 | 29 => 44 | 46 => 50 | 47 => 51 | 48 => 52 | 49 => 53 | 50 => 54 | 57 => 59 | n => n, fun | 0 => 0 | 3 => 3 | 4 => 4 | 5 => 5 | 9 => 9 | 22 => 31 | 24 => 33 | 25 => 36 | 39 => 45 | 45 => 55 | 46 => 56 | 50 => 60 | 53 => 63 | 55 => 65 | 66 => 73 | 70 => 77 | 76 => 84 | 77 => 85 | n => n, fun n => n⟩
set_option maxRecDepth 100000 in
theorem sofLays : SlLaysF0.n6 Tryd.prog sofRen := {
  mixed := by kernel_rfl,
  f6 := ⟨Tryd.f17.name, by decide, Tryd.func17.trans (congrArg some (by kernel_rfl))⟩,
  f14 := ⟨Tryd.f26.name, by decide, Tryd.func26.trans (congrArg some (by kernel_rfl))⟩,
  f15 := Tryd.func27.trans (congrArg some (by kernel_rfl)),
  f20 := ⟨Tryd.f35.name, by decide, Tryd.func35.trans (congrArg some (by kernel_rfl))⟩,
  f21 := ⟨Tryd.f36.name, by decide, Tryd.func36.trans (congrArg some (by kernel_rfl))⟩,
  f22 := ⟨Tryd.f37.name, by decide, Tryd.func37.trans (congrArg some (by kernel_rfl))⟩,
  f23 := ⟨Tryd.f38.name, by decide, Tryd.func38.trans (congrArg some (by kernel_rfl))⟩,
  f24 := ⟨Tryd.f39.name, by decide, Tryd.func39.trans (congrArg some (by kernel_rfl))⟩,
  f25 := ⟨Tryd.f40.name, by decide, Tryd.func40.trans (congrArg some (by kernel_rfl))⟩,
  f26 := ⟨Tryd.f41.name, by decide, Tryd.func41.trans (congrArg some (by kernel_rfl))⟩,
  f27 := ⟨Tryd.f42.name, by decide, Tryd.func42.trans (congrArg some (by kernel_rfl))⟩,
  f28 := Tryd.func43.trans (congrArg some (by kernel_rfl)),
  f29 := Tryd.func44.trans (congrArg some (by kernel_rfl)),
  f46 := ⟨Tryd.f50.name, by decide, Tryd.func50.trans (congrArg some (by kernel_rfl))⟩,
  f47 := Tryd.func51.trans (congrArg some (by kernel_rfl)),
  f48 := Tryd.func52.trans (congrArg some (by kernel_rfl)),
  f49 := ⟨Tryd.f53.name, by decide, Tryd.func53.trans (congrArg some (by kernel_rfl))⟩,
  f50 := ⟨Tryd.f54.name, by decide, Tryd.func54.trans (congrArg some (by kernel_rfl))⟩,
  f57 := ⟨Tryd.f59.name, by decide, Tryd.func59.trans (congrArg some (by kernel_rfl))⟩,
  t0 := Tryd.underlying0,
  a0 := Tryd.isAgg0,
  z0 := Tryd.sizeOf0,
  v0 := Tryd.zeroValue0,
  t3 := Tryd.underlying3,
  a3 := Tryd.isAgg3,
  z3 := Tryd.sizeOf3,
  v3 := Tryd.zeroValue3,
  t4 := Tryd.underlying4,
  a4 := Tryd.isAgg4,
  z4 := Tryd.sizeOf4,
  v4 := Tryd.zeroValue4,
  t5 := Tryd.underlying5,
  a5 := Tryd.isAgg5,
  z5 := Tryd.sizeOf5,
  v5 := Tryd.zeroValue5,
  t9 := Tryd.underlying9,
  a9 := Tryd.isAgg9,
  z9 := Tryd.sizeOf9,
  v9 := Tryd.zeroValue9,
  t22 := Tryd.underlying31,
  a22 := Tryd.isAgg31,
  z22 := Tryd.sizeOf31,
  v22 := Tryd.zeroValue31,
  t25 := Tryd.underlying36,
  a25 := Tryd.isAgg36,
  z25 := Tryd.sizeOf36,
  v25 := Tryd.zeroValue36,
  t39 := Tryd.underlying45,
  a39 := Tryd.isAgg45,
  z39 := Tryd.sizeOf45,
  v39 := Tryd.zeroValue45,
  t45 := Tryd.underlying55,
  a45 := Tryd.isAgg55,
  z45 := Tryd.sizeOf55,
  v45 := Tryd.zeroValue55,
  t46 := Tryd.underlying56,
  a46 := Tryd.isAgg56,
  z46 := Tryd.sizeOf56,
  v46 := Tryd.zeroValue56,
  t50 := Tryd.underlying60,
  a50 := Tryd.isAgg60,
  z50 := Tryd.sizeOf60,
  v50 := Tryd.zeroValue60,
  t53 := Tryd.underlying63,
  a53 := Tryd.isAgg63,
  z53 := Tryd.sizeOf63,
  v53 := Tryd.zeroValue63,
  t55 := Tryd.underlying65,
  a55 := Tryd.isAgg65,
  z55 := Tryd.sizeOf65,
  v55 := Tryd.zeroValue65,
  t66 := Tryd.underlying73,
  a66 := Tryd.isAgg73,
  z66 := Tryd.sizeOf73,
  v66 := Tryd.zeroValue73,
  t70 := Tryd.underlying77,
  a70 := Tryd.isAgg77,
  z70 := Tryd.sizeOf77,
  v70 := Tryd.zeroValue77,
  t76 := Tryd.underlying84,
  a76 := Tryd.isAgg84,
  z76 := Tryd.sizeOf84,
  v76 := Tryd.zeroValue84,
  t77 := Tryd.underlying85,
  a77 := Tryd.isAgg85,
  z77 := Tryd.sizeOf85,
  v77 := Tryd.zeroValue85 }
theorem ltOf_ag (x y : Dt) : ltOf agI x y = decide (y.1 < x.1 ∨ (x.1 = y.1 ∧ x.2 < y.2)) := by
  unfold ltOf agI orI cmpI
  by_cases h1 : y.1 < x.1
  · simp [h1]
  · by_cases h2 : x.1 < y.1
    · simp [h1, h2]; omega
    · have e : x.1 = y.1 := by omega
      by_cases h3 : x.2 < y.2
      · simp [e, h3]
      · by_cases h4 : y.2 < x.2 <;> simp [e, h3, h4]
theorem swo_ag : Sort.SWO (ltOf agI) where
  irrefl x := by rw [ltOf_ag]; simp
  trans x y z h1 h2 := by rw [ltOf_ag] at *; simp at *; omega
  ntrans x y z h1 h2 := by rw [ltOf_ag] at *; simp at *; omega
theorem ag_total (x y : Dt) (h1 : ltOf agI x y = false) (h2 : ltOf agI y x = false) : x = y := by
  rw [ltOf_ag] at *
  simp at *
  exact Prod.ext (by omega) (by omega)
theorem sorted_cmp (blk off size : Nat) (w : World) : CmpLays Tryd.prog 18 #[] dtf 2 agI blk off size w :=
  fun _ _ _ _ x y => against_any x.1 x.2 y.1 y.2 _
theorem sof_any (l : List Dt) (blk cap : Nat) (w : World) (hH : Sort.HoldsK dtf 2 w blk 0 l.toArray) (hblk : blk < w.heap.size) (hsz : l.length < 4611686018427387904) :
    Calls Tryd.prog 17 #[.slice (some ⟨blk, 0, none⟩) l.length cap, .func (.func 18) #[] #[]] w fun e w' =>
      e = .returned (.tuple #[]) ∧ ∃ n os, w' = sortWorldK dtf 2 w blk 0 n (l.mergeSort fun x y => !(ltOf agI) y x).toArray os := by
  have eg : ∀ args w, (callFunc 18 args).run Tryd.prog w = .ok (.enter 18 args) w := enters_of Tryd.func18 (by kernel_rfl) rfl
  have h := AnyQ.slices_SortFunc_total sofLays 2 Tryd.isAgg33 Tryd.sizeOf33 dtf dtW.len dtW.one agI swo_ag 18 #[] blk 0 cap l.toArray w eg (sorted_cmp blk 0 l.toArray.size w) hH hblk (by simpa using hsz) ag_total
  simp only [List.size_toArray] at h
  exact h
theorem sof_none (p : Option Addr) (cap : Nat) (fv : Value) (w : World) : Calls Tryd.prog 17 #[.slice p 0 cap, fv] w fun e w' => e = .returned (.tuple #[]) ∧ w' = w :=
  AnyF.slices_SortFunc_none sofLays p cap fv w

end Go.Proofs.YtidmaaglfckcbapDoor
