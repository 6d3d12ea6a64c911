/- THE LIBRARY's strconv.FormatInt at base 10 at this cut: its closure by name, in plain words (after the guide's plain mode). (Written by laygen.py.) -/
import Derived.Shelf.Strconv.Itoa4
import Derived.Test.YtidmaaglfckcbacDoorDecL
namespace Go.Proofs.YtidmaaglfckcbacDoor
open Go.Shelf Go.RowKit
set_option linter.unusedVariables false
def fmtRen : Go.Shelf.Ren := ⟨fun | 129 => 92 | 173 => 61 | 246 => 80 | 283 => 93 | 284 => 94 | 285 => 95 | 286 => 96 | 317 => 104 | 318 => 105 | 319 => 106 | 320 => 107 | 337 => 110 | 338 => 111 | n => n, fun | 0 => 0 | 2 => 2 | 3 => 3 | 4 => 4 | 5 => 5 | 9 => 9 | 20 => 20 | 37 => 22 | 46 => 102 | 51 => 117 | 53 => 119 | 171 => 122 | 173 => 124 | 212 => 135 | 213 => 136 | 232 => 142 | 233 => 143 | n => n, fun | 17 => 0 | 18 => 1 | 19 => 2 | n => n⟩
set_option maxRecDepth 100000 in
theorem fmtLays : Lays.n173 Tryd.prog fmtRen := {
  mixed := by kernel_rfl,
  f129 := Tryd.func92.trans (congrArg some (by kernel_rfl)),
  f173 := Tryd.func61.trans (congrArg some (by kernel_rfl)),
  f246 := Tryd.func80.trans (congrArg some (by kernel_rfl)),
  f283 := Tryd.func93.trans (congrArg some (by kernel_rfl)),
  f284 := Tryd.func94.trans (congrArg some (by kernel_rfl)),
  f285 := Tryd.func95.trans (congrArg some (by kernel_rfl)),
  f286 := Tryd.func96.trans (congrArg some (by kernel_rfl)),
  f317 := Tryd.func104.trans (congrArg some (by kernel_rfl)),
  f318 := Tryd.func105.trans (congrArg some (by kernel_rfl)),
  f319 := Tryd.func106.trans (congrArg some (by kernel_rfl)),
  f320 := Tryd.func107.trans (congrArg some (by kernel_rfl)),
  f337 := Tryd.func110.trans (congrArg some (by kernel_rfl)),
  f338 := Tryd.func111.trans (congrArg some (by kernel_rfl)),
  t0 := Tryd.underlying0,
  a0 := Tryd.isAgg0,
  z0 := Tryd.sizeOf0,
  v0 := Tryd.zeroValue0,
  t2 := Tryd.underlying2,
  a2 := Tryd.isAgg2,
  z2 := Tryd.sizeOf2,
  v2 := Tryd.zeroValue2,
  t3 := Tryd.underlying3,
  a3 := Tryd.isAgg3,
  z3 := Tryd.sizeOf3,
  v3 := Tryd.zeroValue3,
  t4 := Tryd.underlying4,
  a4 := Tryd.isAgg4,
  z4 := Tryd.sizeOf4,
  v4 := Tryd.zeroValue4,
  t5 := Tryd.underlying5,
  a5 := Tryd.isAgg5,
  z5 := Tryd.sizeOf5,
  v5 := Tryd.zeroValue5,
  t9 := Tryd.underlying9,
  a9 := Tryd.isAgg9,
  z9 := Tryd.sizeOf9,
  v9 := Tryd.zeroValue9,
  t20 := Tryd.underlying20,
  a20 := Tryd.isAgg20,
  z20 := Tryd.sizeOf20,
  v20 := Tryd.zeroValue20,
  t37 := Tryd.underlying22,
  a37 := Tryd.isAgg22,
  z37 := Tryd.sizeOf22,
  v37 := Tryd.zeroValue22,
  t46 := Tryd.underlying102,
  a46 := Tryd.isAgg102,
  z46 := Tryd.sizeOf102,
  v46 := Tryd.zeroValue102,
  t51 := Tryd.underlying117,
  a51 := Tryd.isAgg117,
  z51 := Tryd.sizeOf117,
  v51 := Tryd.zeroValue117,
  t53 := Tryd.underlying119,
  a53 := Tryd.isAgg119,
  z53 := Tryd.sizeOf119,
  v53 := Tryd.zeroValue119,
  t171 := Tryd.underlying122,
  a171 := Tryd.isAgg122,
  z171 := Tryd.sizeOf122,
  v171 := Tryd.zeroValue122,
  t173 := Tryd.underlying124,
  a173 := Tryd.isAgg124,
  z173 := Tryd.sizeOf124,
  v173 := Tryd.zeroValue124,
  t212 := Tryd.underlying135,
  a212 := Tryd.isAgg135,
  z212 := Tryd.sizeOf135,
  v212 := Tryd.zeroValue135,
  t213 := Tryd.underlying136,
  a213 := Tryd.isAgg136,
  z213 := Tryd.sizeOf136,
  t232 := Tryd.underlying142,
  a232 := Tryd.isAgg142,
  z232 := Tryd.sizeOf142,
  v232 := Tryd.zeroValue142,
  t233 := Tryd.underlying143,
  a233 := Tryd.isAgg143,
  z233 := Tryd.sizeOf143,
  v233 := Tryd.zeroValue143,
  g17 := by kernel_rfl,
  g18 := by kernel_rfl,
  g19 := by kernel_rfl }
set_option maxRecDepth 100000 in
theorem fmtLaid : LaysM.n173 Tryd.prog fmtRen := { fmtLays with
  i0 := by kernel_rfl,
  i2 := by kernel_rfl,
  i3 := by kernel_rfl,
  i4 := by kernel_rfl,
  i5 := by kernel_rfl,
  i9 := by kernel_rfl,
  i20 := by kernel_rfl,
  i37 := by kernel_rfl,
  i46 := by kernel_rfl,
  i51 := by kernel_rfl,
  i53 := by kernel_rfl,
  i171 := by kernel_rfl,
  i173 := by kernel_rfl,
  i212 := by kernel_rfl,
  i232 := by kernel_rfl,
  i233 := by kernel_rfl,
  m17 := by kernel_rfl,
  m18 := by kernel_rfl,
  m19 := by kernel_rfl }
theorem formatSmall_any (k : Nat) (hk : k < 100) (w : World) :
    Calls Tryd.prog 61 #[.int .i64 (k : Int), .int .i64 10] w fun e w' => e = .returned (.string (decN k)) ∧ w' = w := by
  have h := Any.strconv_FormatInt_10_small fmtLays k hk w
  rw [dec_same k (by omega)] at h
  exact h
/-- at every number from 0 on, where the table of powers of ten stands -/
theorem formatTab_any (k : Nat) (hk : k ≤ 9223372036854775807) (w : World) (htab : Lib.TabIs Tryd.prog w "internal/strconv.uint64pow10" .u64 Lib.pow10Tab) :
    Calls Tryd.prog 61 #[.int .i64 (k : Int), .int .i64 10] w fun e w' => e = .returned (.string (decN k)) ∧ Below w.heap.size w w' := by
  have h := Any.strconv_FormatInt_10 fmtLaid (k : Int) (by omega) (by omega) w htab
  refine h.mono ?_
  rintro e w' ⟨rfl, n, os, rfl⟩
  refine ⟨?_, ?_⟩
  · have e9 : Lib.itoa (k : Int) = Lib.decDigits k := by unfold Lib.itoa; rw [if_neg (by omega)]; rfl
    rw [e9, dec_same k (by omega)]
  · exact ⟨rfl, rfl, rfl, by simp [Sort.grow, World.drewN], fun j hj => by show (w.heap ++ os)[j]? = _; rw [Array.getElem?_append, if_pos hj]⟩
end Go.Proofs.YtidmaaglfckcbacDoor
