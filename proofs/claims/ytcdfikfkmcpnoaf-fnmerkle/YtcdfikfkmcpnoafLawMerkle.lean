/- FnMerkle: two lists of chunks that grow to one root are alike, or two texts of their trees clash. For every code, without a condition. -/
import Derived.Test.YtcdfikfkmcpnoafGrI
import Derived.Test.YtcdfikfkmcpnoafDrawsG
import Derived.Test.YtcdfikfkmcpnoafQueS
import Derived.Test.YtcdfikfkmcpnoafLikeTT
import Derived.Test.YtcdfikfkmcpnoafClashes
import Derived.Test.YtcdfikfkmcpnoafPick
import Derived.Test.YtcdfikfkmcpnoafArgs
import Derived.Test.YtcdfikfkmcpnoafSteps
import Derived.Deep.RegionHeld
namespace Go.Proofs.Ytcdfikfkmcpnoaf.fnMerkle
open Go.ChangeShapes Go.WideShapes Go.ChangeAt Go.RowKit
set_option linter.unusedVariables false
theorem calm_all {l : List ByteArray} (h : clashesB l = false) {i j : Nat} (hi : i < l.length) (hj : j < l.length) (e : digest (l.getD i ByteArray.empty) = digest (l.getD j ByteArray.empty)) : l.getD i ByteArray.empty = l.getD j ByteArray.empty := by
  rcases Nat.lt_trichotomy i j with g | g | g
  · by_cases hx : l.getD i ByteArray.empty = l.getD j ByteArray.empty
    · exact hx
    · rw [clashesB_of hj g ((clashB_iff _ _).2 ⟨fun h => hx h.symm, e.symm⟩)] at h
      cases h
  · rw [g]
  · by_cases hx : l.getD i ByteArray.empty = l.getD j ByteArray.empty
    · exact hx
    · rw [clashesB_of hi g ((clashB_iff _ _).2 ⟨hx, e⟩)] at h
      cases h
theorem alike_no {xs ys : List ByteArray} (hg : (grownT xs).1 ≠ []) (h : (grownT ys).1 = [] ∨ (grownT xs).2 ≠ (grownT ys).2) : decide (xs = ys) = false := by
  rw [decide_eq_false_iff_not]
  intro e
  subst e
  rcases h with h | h
  · exact hg h
  · exact h rfl
theorem clash_yes {xs ys : List ByteArray} (hx : (grownT xs).1 ≠ []) (hy : (grownT ys).1 ≠ []) (hr : (grownT xs).2 = (grownT ys).2) (hd : decide (xs = ys) = false) : clashesB ((grownT xs).1 ++ (grownT ys).1) = true := by
  cases hc : clashesB ((grownT xs).1 ++ (grownT ys).1) with
  | true => rfl
  | false =>
    refine absurd (grown_merkle hx hy hr fun a ha b hb e => ?_) (of_decide_eq_false hd)
    generalize (grownT xs).1 ++ (grownT ys).1 = V at hc ha hb
    obtain ⟨i, hi, rfl⟩ := List.getElem_of_mem ha
    obtain ⟨j, hj, rfl⟩ := List.getElem_of_mem hb
    have e1 : V.getD i ByteArray.empty = V[i] := by simp [List.getD, hi]
    have e2 : V.getD j ByteArray.empty = V[j] := by simp [List.getD, hj]
    have h1 := calm_all hc hi hj (by rw [e1, e2]; exact e)
    rw [e1, e2] at h1
    exact h1
theorem grown_text {xs : List ByteArray} (hs : ∀ s ∈ xs, s.size ≤ 1048576) : (grownT xs).1.length ≤ 192 := by
  unfold grownT
  split
  · rename_i k
    have h2 := above_len 5 (xs.map leafT)
    rw [List.length_append]
    rw [List.length_map] at h2 ⊢
    omega
  · exact Nat.zero_le _
theorem above_size : ∀ (n : Nat) (xs : List ByteArray) {s : ByteArray}, s ∈ (above n xs).1 → s.size ≤ 31
  | 0, xs, s, h => by cases h
  | n + 1, xs, s, h => by
    unfold above at h
    split at h
    · cases h
    · rcases List.mem_append.1 h with h | h
      · unfold upT at h
        obtain ⟨d, _, rfl⟩ := List.mem_map.1 h
        exact brT_31
      · exact above_size n _ h
theorem leaf_size (c : ByteArray) : (leafT c).size ≤ c.size + 1 := by
  unfold leafT leafL
  rw [asB_size, List.length_cons, byts_len]
  omega
theorem grown_size {xs : List ByteArray} (hs : ∀ s ∈ xs, s.size ≤ 1048576) {s : ByteArray} (h : s ∈ (grownT xs).1) : s.size ≤ 9223372036854775807 := by
  unfold grownT at h
  split at h
  · rcases List.mem_append.1 h with h | h
    · obtain ⟨c, hc, rfl⟩ := List.mem_map.1 h
      have h1 := hs c hc
      have h2 := leaf_size c
      omega
    · have := above_size _ _ h
      omega
  · cases h
theorem grown_nil {xs : List ByteArray} (h : (grownT xs).1 = []) : (grownT xs).2 = 0 := by
  unfold grownT at h ⊢
  split at h
  · rename_i k
    exfalso
    have := congrArg List.length h
    simp at this
    have h2 := k.1
    rw [this.1] at h2
    simp at h2
  · rename_i k
    rw [if_neg k]
set_option maxHeartbeats 8000000 in
set_option maxRecDepth 100000 in
theorem walk (va : Value) (bs : List Int) (w : World) (ha : Rd w va (cellsByteS bs)) (hz : Bytes bs) (hlen : bs.length ≤ 9223372036854775807) :
    Calls Try.prog 3 #[va] w fun e w' => e = .returned (.bool true) ∧ Below w.heap.size w w' := by
  by_cases hbig : 4096 < (bs.length : Int)
  · obtain ⟨ao, cap, rfl, _, _⟩ := ha
    have hla : (cellsByteS bs).length = bs.length := by simp
    rw [hla]
    go_enter Try.func3, Try.ntmps3
    go_wp2
    go_ret
    exact ⟨rfl, Below.refl _ _⟩
  · have hl : bs.length ≤ 4096 := by omega
    have hbg : Calls Try.prog 4 #[va] w fun e w' => e = .returned (.bool false) ∧ w' = w := by
      obtain ⟨ao, cap, rfl, _, _⟩ := ha
      have hla : (cellsByteS bs).length = bs.length := by simp
      rw [hla]
      go_enter Try.func4, Try.ntmps4
      go_wp2
      go_ret
      exact ⟨by simp, rfl⟩
    have HPK := Lib.hid (fun (seed n : Int) (W : World) (h : Below w.heap.size w W) h0 h1 h2 h3 => pick_any va bs seed n W (rd_below ha h) hl (code_all hz) h0 h1 h2 h3)
    have hdr := drawGrown_any va bs w ha hl hz
    clear ha hz hlen hbig
    go_enter Try.func3, Try.ntmps3
    go_wp2_with fail
    refine hbg.mono ?_
    rintro e w' ⟨rfl, rfl⟩
    clear hbg
    go_wp2_with fail
    refine hdr.mono ?_
    rintro e w1 ⟨vx, xs, rfl, hxl, hxs, hrx, hb1⟩
    clear hdr
    have HXS : Hid (∀ s ∈ xs, s.size ≤ 1048576) := fun s h => by have := hxs s h; omega
    have HR := Lib.hid (fun (W : World) (h : Below w1.heap.size w1 W) => rd_below hrx h)
    obtain ⟨ax, cx, hvx⟩ : ∃ ax cx, vx = .slice ax xs.length cx := by
      obtain ⟨ax, cx, h, _⟩ := hrx
      rw [List.length_map] at h
      exact ⟨ax, cx, h⟩
    subst hvx
    go_wp2_with fail
    refine (implGrown_any _ xs w1 (HR.out _ (Below.refl _ _)) (by omega) HXS.out).mono ?_
    rintro e w2 ⟨vg, rfl, hog, hb2⟩
    have hs1 := hb1.size
    have hs2 := hb2.size
    go_wp2_with fail
    refine (specGrown_any _ xs w2 (HR.out _ hb2) (by omega) HXS.out).mono ?_
    rintro e w3 ⟨vh, rfl, hoh, hb3⟩
    have hog3 := owns_below hog hb3
    have hB3 := hb2.trans (hb3.mono hb2.size)
    clear hog hb2 hb3
    go_wp2_with fail
    refine (likeTexts_any vg vh _ _ w3 (rd_owns hog3) (rd_owns hoh) (by have := grown_text HXS.out; omega) (by have := grown_text HXS.out; omega)).mono ?_
    rintro e w4 ⟨rfl, hb4⟩
    rw [decide_eq_true rfl]
    have hog4 := owns_below hog3 hb4
    have hB4 := hB3.trans (hb4.mono hB3.size)
    have hs4 := hB4.size
    clear hog3 hoh hB3 hb4
    obtain ⟨ag, cg, hvg⟩ := owns_slice hog4
    subst hvg
    obtain ⟨g, hg⟩ : ∃ g, g = (grownT xs).1 := ⟨_, rfl⟩
    obtain ⟨r, hr⟩ : ∃ r, r = (grownT xs).2 := ⟨_, rfl⟩
    have hrr : (r != r) = false := by simp
    have HGX := Lib.hid hg
    have HRX := Lib.hid hr
    rw [← hg] at hog4
    rw [← hg, ← hr]
    have hgl : g.length ≤ 192 := by rw [hg]; exact grown_text HXS.out
    have hnil : g.length = 0 → r = 0 := fun h => by rw [hr]; exact grown_nil (by rw [← hg]; exact List.eq_nil_of_length_eq_zero h)
    clear hg hr
    by_cases h0 : g.length = 0
    · have hr0 := hnil h0
      subst hr0
      have h0I : ((g.length : Int) == 0) = true := by rw [h0]; rfl
      have HB := Lib.hid (hb1.trans (hB4.mono hb1.size))
      clear hog4 hB4 hnil
      go_wp2
      go_ret
      exact ⟨rfl, HB.out⟩
    · have h0I : ((g.length : Int) == 0) = false := by rw [beq_eq_false_iff_ne]; omega
      clear hnil
      have hxp : 0 < xs.length := by
        rcases Nat.eq_zero_or_pos xs.length with h | h
        · have hx : xs = [] := List.eq_nil_of_length_eq_zero h
          subst hx
          exact absurd (by rw [HGX.out]; rfl) h0
        · exact h
      have hal4 := (Below.refl w4.heap.size w4).alloc (Nat.le_refl _) (.cells #[] 9)
      have hlit : (w4.alloc (.cells #[] 9)).ownsRow w4.heap.size 9 1 (.slice (some ⟨w4.heap.size, 0, none⟩) 0 0) ([] : List ByteArray).length (cellsS []) := World.ownsRow_lit (base := w4.heap.size) (e := 9) (size := 1) w4 #[] 0 (Nat.le_refl _) (Nat.zero_le _) rfl
      have hrx4 := HR.out _ (hB4.trans (hal4.mono hs4))
      go_wp2_with (at_builtin; refine qs.own_step rfl _ _ rfl w4.heap.size (.slice (some ⟨w4.heap.size, 0, none⟩) 0 0) _ [] xs rfl rfl hlit hrx4 (by simp; omega) (by rw [World.size_alloc]; omega) ?_)
      intro vb w5 hob hg5 hi5
      have hB5 : Below w4.heap.size w4 w5 := hal4.grown hg5 (by rw [World.size_alloc]; omega) (fun j e => by have e2 : w4.heap.size = j := Option.some.inj e; omega)
      have hb5 := hB4.trans (hB5.mono hs4)
      have hog5 := owns_below hog4 hB5
      have HGL := Lib.hid (fun j (e : (Value.slice ag g.length cg).ownBlock = some j) => (hog4.lt j e).2)
      try rw [List.nil_append] at hob
      have hs5 := hB5.size
      clear hog4 hB4 hal4 hlit hrx4 hg5 hi5 hB5
      obtain ⟨gb, cb, hvb, hbk⟩ := owns_head hob hxp
      subst hvb
      have hgb := (hob.lt gb hbk).1
      go_wp2_with fail
      refine (HPK.out 1 (xs.length : Int) w5 (hb1.trans (hb5.mono hs1)) (by omega) (by omega) (by omega) (by omega)).mono ?_
      rintro e w6 ⟨kz, rfl, hk0, hkn, hb6⟩
      obtain ⟨k, rfl⟩ : ∃ k : Nat, kz = k := ⟨kz.toNat, by omega⟩
      have hkl : k < xs.length := by omega
      have hs6 := hb6.size
      have hob6 := owns_below hob hb6
      have hog6 := owns_below hog5 hb6
      have hB6 := hb5.trans (hb6.mono hb5.size)
      clear hob hog5 hb5 hb6
      go_wp2_with fail
      refine (HPK.out 2 4 w6 (hb1.trans (hB6.mono hs1)) (by omega) (by omega) (by omega) (by omega)).mono ?_
      rintro e w7 ⟨q, rfl, hq0, hqn, hb7⟩
      have hs7 := hb7.size
      have hob7 := owns_below hob6 hb7
      have hog7 := owns_below hog6 hb7
      have hB7 := hB6.trans (hb7.mono hB6.size)
      clear hob6 hog6 hB6 hb7
      have ck : w7.cell? ⟨gb, k, none⟩ = some (.string (xs.getD k ByteArray.empty)) := (hob7.cellAt k (by omega)).trans (strs_get xs k hkl)
      have c0 : w7.cell? ⟨gb, 0, none⟩ = some (.string (xs.getD 0 ByteArray.empty)) := (hob7.cellAt 0 (by omega)).trans (strs_get xs 0 hxp)
      have hfr : ∀ j, w7.frozen? ⟨gb, j, none⟩ = false := fun j => by
        rcases hob7.2 with ⟨h, _⟩ | ⟨g9, cap, cur, h1, _, h3, _⟩
        · cases h
        · simp only [Value.slice.injEq, Option.some.injEq, Addr.mk.injEq, and_true, true_and] at h1
          obtain ⟨rfl, _⟩ := h1
          exact Lib.frozen_of_heap h3 j
      have hfk := hfr k
      have HST : Hid (∀ t : ByteArray, t.size ≤ 3001 → Rd (w7.setCell ⟨gb, k, none⟩ (.string t)) (.slice (some ⟨gb, 0, none⟩) xs.length cb) (cellsS (xs.set k t)) ∧ (xs.set k t).length ≤ 300 ∧ (∀ s ∈ xs.set k t, s.size ≤ 1048576) ∧ Below w1.heap.size w1 (w7.setCell ⟨gb, k, none⟩ (.string t)) ∧ (w7.setCell ⟨gb, k, none⟩ (.string t)).ownsRow w1.heap.size 9 1 (.slice ag g.length cg) g.length (cellsS g)) := fun t ht => by
        obtain ⟨h1, h2⟩ := World.ownsRow.stored hob7 k (.string t)
        have e : (cellsS xs).set k (.string t) = cellsS (xs.set k t) := by simp [cellsS, List.map_set]
        rw [e] at h1
        refine ⟨rd_owns h1, by rw [List.length_set]; exact hxl, fun s hs => ?_, hB7.grown h2 hB7.size (fun j e => by have := Option.some.inj e; omega), owns_grown hog7 h2 (fun j e h => by have h3 := HGL.out j h; have := Option.some.inj e; omega)⟩
        rcases List.mem_or_eq_of_mem_set hs with h | h
        · exact HXS.out s h
        · rw [h]; omega
      have hxk : (xs.getD k ByteArray.empty).size ≤ 3000 := by
        have e : xs.getD k ByteArray.empty = xs[k] := by simp [List.getD, hkl]
        rw [e]; exact hxs _ (List.getElem_mem hkl)
      have hx0 : (xs.getD 0 ByteArray.empty).size ≤ 3000 := by
        have e : xs.getD 0 ByteArray.empty = xs[0] := by simp [List.getD, hxp]
        rw [e]; exact hxs _ (List.getElem_mem hxp)
      obtain ⟨tk, htk⟩ : ∃ tk, tk = xs.getD k ByteArray.empty := ⟨_, rfl⟩
      obtain ⟨t0, ht0⟩ : ∃ t0, t0 = xs.getD 0 ByteArray.empty := ⟨_, rfl⟩
      rw [← htk] at ck hxk
      rw [← ht0] at c0 hx0
      clear htk ht0 hfr
      have hkI : (k : Int) < (xs.length : Int) := by omega
      have hk0I : ¬ (k : Int) < 0 := by omega
      rcases (show q = 0 ∨ q = 1 ∨ q = 2 ∨ q = 3 by omega) with rfl | rfl | rfl | rfl
      · have _zero : True := trivial
        obtain ⟨hry, hyl, hys, hb8, hog8⟩ := HST.out (tk ++ ⟨#[120]⟩) (by
          have : (tk ++ ⟨#[120]⟩ : ByteArray).size = tk.size + 1 := by
            rw [ByteArray.size_append]
            rfl
          omega)
        have HYS := Lib.hid hys
        clear hys hob7 hog7 hB7 HST c0
        go_wp2_with fail
        clear ck hfk
        refine (implGrown_any (.slice (some ⟨gb, 0, none⟩) xs.length cb) (xs.set k (tk ++ ⟨#[120]⟩)) (w7.setCell ⟨gb, k, none⟩ (.string (tk ++ ⟨#[120]⟩))) hry (by omega) HYS.out).mono ?_
        rintro e w9 ⟨vo, rfl, hoo, hb9⟩
        have hs8 := hb8.size
        have hog9 := owns_below hog8 hb9
        have hry9 := rd_below hry hb9
        have hb99 := hb8.trans (hb9.mono hs8)
        have hrx9 := HR.out _ hb99
        have hs9 := hb99.size
        clear hog8 hry hb8 hb9
        have hlen2 : (grownT (xs.set k (tk ++ ⟨#[120]⟩))).1.length ≤ 192 := grown_text HYS.out
        have HSZ : Hid (∀ s ∈ g ++ (grownT (xs.set k (tk ++ ⟨#[120]⟩))).1, s.size ≤ 9223372036854775807) := fun s hs => by
          rcases List.mem_append.1 hs with h | h
          · rw [HGX.out] at h
            exact grown_size HXS.out h
          · exact grown_size HYS.out h
        have HNO : Hid ((grownT (xs.set k (tk ++ ⟨#[120]⟩))).1.length = 0 ∨ ¬ r = (grownT (xs.set k (tk ++ ⟨#[120]⟩))).2 → decide (xs = (xs.set k (tk ++ ⟨#[120]⟩))) = false) := fun h => alike_no (fun e => h0 (by simp [HGX.out, e])) (h.elim (fun h => Or.inl (List.eq_nil_of_length_eq_zero h)) (fun h => Or.inr (fun e => h (HRX.out.trans e))))
        have HYE : Hid (¬ (grownT (xs.set k (tk ++ ⟨#[120]⟩))).1.length = 0 → r = (grownT (xs.set k (tk ++ ⟨#[120]⟩))).2 → decide (xs = (xs.set k (tk ++ ⟨#[120]⟩))) = false → clashesB (g ++ (grownT (xs.set k (tk ++ ⟨#[120]⟩))).1) = true) := fun h1 h2 h3 => by
          rw [HGX.out]
          exact clash_yes (fun e => h0 (by simp [HGX.out, e])) (fun e => h1 (by simp [e])) (HRX.out.symm.trans h2) h3
        have hlk := likeTexts_any _ (.slice (some ⟨gb, 0, none⟩) xs.length cb) xs (xs.set k (tk ++ ⟨#[120]⟩)) w9 hrx9 hry9 (by omega) (by omega)
        obtain ⟨D, hD⟩ : ∃ D, D = decide (xs = (xs.set k (tk ++ ⟨#[120]⟩))) := ⟨_, rfl⟩
        rw [← hD] at HNO HYE hlk
        obtain ⟨o, ho⟩ : ∃ o, o = (grownT (xs.set k (tk ++ ⟨#[120]⟩))).1 := ⟨_, rfl⟩
        obtain ⟨r2, hr2⟩ : ∃ r2, r2 = (grownT (xs.set k (tk ++ ⟨#[120]⟩))).2 := ⟨_, rfl⟩
        rw [← ho] at hoo hlen2 HSZ HNO HYE
        rw [← hr2] at HNO HYE ⊢
        clear ho hr2 hD
        obtain ⟨ao2, co, hvo⟩ := owns_slice hoo
        subst hvo
        have hBB := hb1.trans (hb99.mono hs1)
        by_cases hh0 : o.length = 0
        · have hd := HNO.out (Or.inl hh0)
          subst hd
          have h0J : ((o.length : Int) == 0) = true := by rw [hh0]; rfl
          clear hog9 hoo hry9 hrx9 HSZ HYE HNO
          go_wp2_with fail
          refine hlk.mono ?_
          rintro e w10 ⟨rfl, hb10⟩
          have HB := Lib.hid (hBB.trans (hb10.mono hBB.size))
          clear hlk
          go_wp2
          go_ret
          exact ⟨rfl, HB.out⟩
        · have h0J : ((o.length : Int) == 0) = false := by rw [beq_eq_false_iff_ne]; omega
          by_cases hre : r = r2
          · have hd := HYE.out hh0 hre
            subst hre
            clear HNO HYE
            cases D with
            | true =>
              clear hd hog9 hoo hry9 hrx9 HSZ
              go_wp2_with fail
              refine hlk.mono ?_
              rintro e w10 ⟨rfl, hb10⟩
              have HB := Lib.hid (hBB.trans (hb10.mono hBB.size))
              clear hlk
              go_wp2
              go_ret
              exact ⟨rfl, HB.out⟩
            | false =>
              have hcl := hd rfl
              clear hd hry9 hrx9
              go_wp2_with fail
              refine hlk.mono ?_
              rintro e w10 ⟨rfl, hb10⟩
              have hog10 := owns_below hog9 hb10
              have hoo10 := owns_below hoo hb10
              have hB10 := hBB.trans (hb10.mono hBB.size)
              clear hlk hog9 hoo hb10 hBB
              have hal10 := (Below.refl w10.heap.size w10).alloc (Nat.le_refl _) (.cells #[] 9)
              have hlit10 : (w10.alloc (.cells #[] 9)).ownsRow w10.heap.size 9 1 (.slice (some ⟨w10.heap.size, 0, none⟩) 0 0) ([] : List ByteArray).length (cellsS []) := World.ownsRow_lit (base := w10.heap.size) (e := 9) (size := 1) w10 #[] 0 (Nat.le_refl _) (Nat.zero_le _) rfl
              have hogA := rd_owns (owns_below hog10 hal10)
              have hooA := owns_below hoo10 hal10
              have hooB := hoo10
              clear hog10 hooA hoo10
              go_wp2_with (at_builtin; refine qs.own_stepg (by rfl) _ _ rfl w10.heap.size (.slice (some ⟨w10.heap.size, 0, none⟩) 0 0) _ [] g rfl rfl hlit10 hogA (by simp; omega) (by rw [World.size_alloc]; omega) ?_)
              intro v11 w11 ho11 hg11 hi11
              have hB11 : Below w10.heap.size w10 w11 := hal10.grown hg11 (by rw [World.size_alloc]; omega) (fun j e => by have e2 : w10.heap.size = j := Option.some.inj e; omega)
              have hoo11 := rd_owns (owns_below hooB hB11)
              have hs11 := hB11.size
              have ho11b : w11.ownsRow w10.heap.size 9 1 v11 g.length (cellsS g) := by simpa using ho11
              clear hlit10 hogA hal10 hg11 hi11 hooB ho11
              go_wp2_with (at_builtin; refine qs.own_stepg (by rfl) _ _ rfl w10.heap.size v11 _ g o rfl rfl ho11b hoo11 (by omega) (by omega) ?_)
              intro v12 w12 ho12 hg12 hi12
              have hB12 : Below w10.heap.size w10 w12 := hB11.grown hg12 hB11.size (fun j e => (ho11b.lt j e).1)
              have hrd12 : Rd w12 v12 (cellsS (g ++ o)) := by simpa using rd_owns ho12
              have hcc := implClashes_any v12 (g ++ o) w12 hrd12 (by rw [List.length_append]; omega) HSZ.out
              rw [hcl] at hcc
              have HB12 := Lib.hid (hB10.trans (hB12.mono hB10.size))
              clear hoo11 ho11b hB11 hg12 hi12 ho12 hrd12 hB12 hB10
              go_wp2_with fail
              refine hcc.mono ?_
              rintro e w13 ⟨rfl, hb13⟩
              have HB13 := Lib.hid (HB12.out.trans (hb13.mono HB12.out.size))
              clear hcc hb13
              go_wp2
              go_ret
              exact ⟨rfl, HB13.out⟩
          · have hd := HNO.out (Or.inr hre)
            subst hd
            have hrn : (r != r2) = true := by rw [bne_iff_ne]; exact hre
            clear hog9 hoo hry9 hrx9 HSZ HYE HNO
            go_wp2_with fail
            refine hlk.mono ?_
            rintro e w10 ⟨rfl, hb10⟩
            have HB := Lib.hid (hBB.trans (hb10.mono hBB.size))
            clear hlk
            go_wp2
            go_ret
            exact ⟨rfl, HB.out⟩
      · have _one : True := trivial
        obtain ⟨u1, hsl1, ho1, hub1⟩ := qs.own_take hob7 k (by omega)
        obtain ⟨u2, hsl2, hq2⟩ := qs.que_from (qs.que_owns hob7) (k + 1) (by omega)
        rw [show ((k + 1 : Nat) : Int) = (k : Int) + 1 by omega] at hsl2
        have hw64 : IntKind.i64.wrap ((k : Int) + 1) = (k : Int) + 1 := IntWalk.i64_in _ ⟨by omega, by omega⟩
        have hal7 := ((Below.refl w7.heap.size w7).alloc (Nat.le_refl _) (.cells #[] 9)).drew
        have hlit7 : ((w7.alloc (.cells #[] 9)).drew).ownsRow w7.heap.size 9 1 (.slice (some ⟨w7.heap.size, 0, none⟩) 0 0) ([] : List ByteArray).length (cellsS []) := (World.ownsRow_lit (base := w7.heap.size) (e := 9) (size := 1) w7 #[] 0 (Nat.le_refl _) (Nat.zero_le _) rfl).drew
        have hr1 := rd_below (rd_owns ho1) hal7
        have HQ2 := Lib.hid (fun (W : World) (h : Below w7.heap.size w7 W) => qs.que_rd (qs.que_below hq2 h))
        have htl : (xs.take k).length + (xs.drop (k + 1)).length ≤ 300 := by rw [List.length_take, List.length_drop]; omega
        have hsA : w7.heap.size ≤ ((w7.alloc (.cells #[] 9)).drew).heap.size := hal7.size
        clear hq2 ho1 HST ck c0 hfk
        go_wp2
        go_region_law (first
          | (refine qs.step_own rfl (.tmp 61) (.tmp 64) rfl w7.heap.size (.slice (some ⟨w7.heap.size, 0, none⟩) 0 0) u1 [] (xs.take k) (by simp [Act.eval]) (by simp [Act.eval]) hlit7 hr1 (by simp; omega) hsA ?_; intro v8 w8 ho8 hg8 hi8)
          | (refine qs.step_own rfl (.tmp 65) (.tmp 69) rfl w7.heap.size v8 u2 ([] ++ xs.take k) (xs.drop (k + 1)) (by simp [Act.eval]) (by simp [Act.eval]) ho8 (HQ2.out _ (hal7.grown hg8 hsA (fun j e => by have e2 : w7.heap.size = j := Option.some.inj e; omega))) (by simp; omega) (by have := hg8.size; omega) ?_; intro v9 w9 ho9 hg9 hi9))
        all_goals
          have hB9 : Below w7.heap.size w7 w9 := (hal7.grown hg8 hsA (fun j e => by have e2 : w7.heap.size = j := Option.some.inj e; omega)).grown hg9 (by have := hg8.size; omega) (fun j e => (ho8.lt j e).1)
          obtain ⟨Y, hY⟩ : ∃ Y, Y = xs.take k ++ xs.drop (k + 1) := ⟨_, rfl⟩
          have hry : Rd w9 v9 (cellsS Y) := by
            rw [hY]
            simpa using rd_owns ho9
          have hyl : Y.length ≤ 300 := by rw [hY, List.length_append]; omega
          have HYS : Hid (∀ s ∈ Y, s.size ≤ 1048576) := fun s h => by
            rw [hY] at h
            rcases List.mem_append.1 h with h | h
            · exact HXS.out s (List.mem_of_mem_take h)
            · exact HXS.out s (List.mem_of_mem_drop h)
          have hb8 := hB7.trans (hB9.mono hB7.size)
          have hog8 := owns_below hog7 hB9
          clear hob7 hog7 hB7 hB9 ho8 ho9 hg8 hg9 hi8 hi9 hlit7 hr1 HQ2 hal7 htl hsl1 hsl2 hY
          go_wp2_with fail
          refine (implGrown_any v9 (Y) (w9) hry (by omega) HYS.out).mono ?_
          rintro e w19 ⟨vo, rfl, hoo, hb9⟩
          have hs8 := hb8.size
          have hog9 := owns_below hog8 hb9
          have hry9 := rd_below hry hb9
          have hb99 := hb8.trans (hb9.mono hs8)
          have hrx9 := HR.out _ hb99
          have hs9 := hb99.size
          clear hog8 hry hb8 hb9
          have hlen2 : (grownT (Y)).1.length ≤ 192 := grown_text HYS.out
          have HSZ : Hid (∀ s ∈ g ++ (grownT (Y)).1, s.size ≤ 9223372036854775807) := fun s hs => by
            rcases List.mem_append.1 hs with h | h
            · rw [HGX.out] at h
              exact grown_size HXS.out h
            · exact grown_size HYS.out h
          have HNO : Hid ((grownT (Y)).1.length = 0 ∨ ¬ r = (grownT (Y)).2 → decide (xs = (Y)) = false) := fun h => alike_no (fun e => h0 (by simp [HGX.out, e])) (h.elim (fun h => Or.inl (List.eq_nil_of_length_eq_zero h)) (fun h => Or.inr (fun e => h (HRX.out.trans e))))
          have HYE : Hid (¬ (grownT (Y)).1.length = 0 → r = (grownT (Y)).2 → decide (xs = (Y)) = false → clashesB (g ++ (grownT (Y)).1) = true) := fun h1 h2 h3 => by
            rw [HGX.out]
            exact clash_yes (fun e => h0 (by simp [HGX.out, e])) (fun e => h1 (by simp [e])) (HRX.out.symm.trans h2) h3
          have hlk := likeTexts_any _ v9 xs (Y) w19 hrx9 hry9 (by omega) (by omega)
          obtain ⟨D, hD⟩ : ∃ D, D = decide (xs = (Y)) := ⟨_, rfl⟩
          rw [← hD] at HNO HYE hlk
          obtain ⟨o, ho⟩ : ∃ o, o = (grownT (Y)).1 := ⟨_, rfl⟩
          obtain ⟨r2, hr2⟩ : ∃ r2, r2 = (grownT (Y)).2 := ⟨_, rfl⟩
          rw [← ho] at hoo hlen2 HSZ HNO HYE
          rw [← hr2] at HNO HYE ⊢
          clear ho hr2 hD
          obtain ⟨ao2, co, hvo⟩ := owns_slice hoo
          subst hvo
          have hBB := hb1.trans (hb99.mono hs1)
          by_cases hh0 : o.length = 0
          · have hd := HNO.out (Or.inl hh0)
            subst hd
            have h0J : ((o.length : Int) == 0) = true := by rw [hh0]; rfl
            clear hog9 hoo hry9 hrx9 HSZ HYE HNO
            go_wp2_with fail
            refine hlk.mono ?_
            rintro e w10 ⟨rfl, hb10⟩
            have HB := Lib.hid (hBB.trans (hb10.mono hBB.size))
            clear hlk
            go_wp2
            go_ret
            exact ⟨rfl, HB.out⟩
          · have h0J : ((o.length : Int) == 0) = false := by rw [beq_eq_false_iff_ne]; omega
            by_cases hre : r = r2
            · have hd := HYE.out hh0 hre
              subst hre
              clear HNO HYE
              cases D with
              | true =>
                clear hd hog9 hoo hry9 hrx9 HSZ
                go_wp2_with fail
                refine hlk.mono ?_
                rintro e w10 ⟨rfl, hb10⟩
                have HB := Lib.hid (hBB.trans (hb10.mono hBB.size))
                clear hlk
                go_wp2
                go_ret
                exact ⟨rfl, HB.out⟩
              | false =>
                have hcl := hd rfl
                clear hd hry9 hrx9
                go_wp2_with fail
                refine hlk.mono ?_
                rintro e w10 ⟨rfl, hb10⟩
                have hog10 := owns_below hog9 hb10
                have hoo10 := owns_below hoo hb10
                have hB10 := hBB.trans (hb10.mono hBB.size)
                clear hlk hog9 hoo hb10 hBB
                have hal10 := (Below.refl w10.heap.size w10).alloc (Nat.le_refl _) (.cells #[] 9)
                have hlit10 : (w10.alloc (.cells #[] 9)).ownsRow w10.heap.size 9 1 (.slice (some ⟨w10.heap.size, 0, none⟩) 0 0) ([] : List ByteArray).length (cellsS []) := World.ownsRow_lit (base := w10.heap.size) (e := 9) (size := 1) w10 #[] 0 (Nat.le_refl _) (Nat.zero_le _) rfl
                have hogA := rd_owns (owns_below hog10 hal10)
                have hooA := owns_below hoo10 hal10
                have hooB := hoo10
                clear hog10 hooA hoo10
                go_wp2_with (at_builtin; refine qs.own_stepg (by rfl) _ _ rfl w10.heap.size (.slice (some ⟨w10.heap.size, 0, none⟩) 0 0) _ [] g rfl rfl hlit10 hogA (by simp; omega) (by rw [World.size_alloc]; omega) ?_)
                intro v11 w11 ho11 hg11 hi11
                have hB11 : Below w10.heap.size w10 w11 := hal10.grown hg11 (by rw [World.size_alloc]; omega) (fun j e => by have e2 : w10.heap.size = j := Option.some.inj e; omega)
                have hoo11 := rd_owns (owns_below hooB hB11)
                have hs11 := hB11.size
                have ho11b : w11.ownsRow w10.heap.size 9 1 v11 g.length (cellsS g) := by simpa using ho11
                clear hlit10 hogA hal10 hg11 hi11 hooB ho11
                go_wp2_with (at_builtin; refine qs.own_stepg (by rfl) _ _ rfl w10.heap.size v11 _ g o rfl rfl ho11b hoo11 (by omega) (by omega) ?_)
                intro v12 w12 ho12 hg12 hi12
                have hB12 : Below w10.heap.size w10 w12 := hB11.grown hg12 hB11.size (fun j e => (ho11b.lt j e).1)
                have hrd12 : Rd w12 v12 (cellsS (g ++ o)) := by simpa using rd_owns ho12
                have hcc := implClashes_any v12 (g ++ o) w12 hrd12 (by rw [List.length_append]; omega) HSZ.out
                rw [hcl] at hcc
                have HB12 := Lib.hid (hB10.trans (hB12.mono hB10.size))
                clear hoo11 ho11b hB11 hg12 hi12 ho12 hrd12 hB12 hB10
                go_wp2_with fail
                refine hcc.mono ?_
                rintro e w13 ⟨rfl, hb13⟩
                have HB13 := Lib.hid (HB12.out.trans (hb13.mono HB12.out.size))
                clear hcc hb13
                go_wp2
                go_ret
                exact ⟨rfl, HB13.out⟩
            · have hd := HNO.out (Or.inr hre)
              subst hd
              have hrn : (r != r2) = true := by rw [bne_iff_ne]; exact hre
              clear hog9 hoo hry9 hrx9 HSZ HYE HNO
              go_wp2_with fail
              refine hlk.mono ?_
              rintro e w10 ⟨rfl, hb10⟩
              have HB := Lib.hid (hBB.trans (hb10.mono hBB.size))
              clear hlk
              go_wp2
              go_ret
              exact ⟨rfl, HB.out⟩
      · have _two : True := trivial
        obtain ⟨hry, hyl, hys, hb8, hog8⟩ := HST.out t0 (by omega)
        have HYS := Lib.hid hys
        clear hys hob7 hog7 hB7 HST
        go_wp2_with fail
        clear c0 ck hfk
        refine (implGrown_any (.slice (some ⟨gb, 0, none⟩) xs.length cb) (xs.set k t0) (w7.setCell ⟨gb, k, none⟩ (.string t0)) hry (by omega) HYS.out).mono ?_
        rintro e w9 ⟨vo, rfl, hoo, hb9⟩
        have hs8 := hb8.size
        have hog9 := owns_below hog8 hb9
        have hry9 := rd_below hry hb9
        have hb99 := hb8.trans (hb9.mono hs8)
        have hrx9 := HR.out _ hb99
        have hs9 := hb99.size
        clear hog8 hry hb8 hb9
        have hlen2 : (grownT (xs.set k t0)).1.length ≤ 192 := grown_text HYS.out
        have HSZ : Hid (∀ s ∈ g ++ (grownT (xs.set k t0)).1, s.size ≤ 9223372036854775807) := fun s hs => by
          rcases List.mem_append.1 hs with h | h
          · rw [HGX.out] at h
            exact grown_size HXS.out h
          · exact grown_size HYS.out h
        have HNO : Hid ((grownT (xs.set k t0)).1.length = 0 ∨ ¬ r = (grownT (xs.set k t0)).2 → decide (xs = (xs.set k t0)) = false) := fun h => alike_no (fun e => h0 (by simp [HGX.out, e])) (h.elim (fun h => Or.inl (List.eq_nil_of_length_eq_zero h)) (fun h => Or.inr (fun e => h (HRX.out.trans e))))
        have HYE : Hid (¬ (grownT (xs.set k t0)).1.length = 0 → r = (grownT (xs.set k t0)).2 → decide (xs = (xs.set k t0)) = false → clashesB (g ++ (grownT (xs.set k t0)).1) = true) := fun h1 h2 h3 => by
          rw [HGX.out]
          exact clash_yes (fun e => h0 (by simp [HGX.out, e])) (fun e => h1 (by simp [e])) (HRX.out.symm.trans h2) h3
        have hlk := likeTexts_any _ (.slice (some ⟨gb, 0, none⟩) xs.length cb) xs (xs.set k t0) w9 hrx9 hry9 (by omega) (by omega)
        obtain ⟨D, hD⟩ : ∃ D, D = decide (xs = (xs.set k t0)) := ⟨_, rfl⟩
        rw [← hD] at HNO HYE hlk
        obtain ⟨o, ho⟩ : ∃ o, o = (grownT (xs.set k t0)).1 := ⟨_, rfl⟩
        obtain ⟨r2, hr2⟩ : ∃ r2, r2 = (grownT (xs.set k t0)).2 := ⟨_, rfl⟩
        rw [← ho] at hoo hlen2 HSZ HNO HYE
        rw [← hr2] at HNO HYE ⊢
        clear ho hr2 hD
        obtain ⟨ao2, co, hvo⟩ := owns_slice hoo
        subst hvo
        have hBB := hb1.trans (hb99.mono hs1)
        by_cases hh0 : o.length = 0
        · have hd := HNO.out (Or.inl hh0)
          subst hd
          have h0J : ((o.length : Int) == 0) = true := by rw [hh0]; rfl
          clear hog9 hoo hry9 hrx9 HSZ HYE HNO
          go_wp2_with fail
          refine hlk.mono ?_
          rintro e w10 ⟨rfl, hb10⟩
          have HB := Lib.hid (hBB.trans (hb10.mono hBB.size))
          clear hlk
          go_wp2
          go_ret
          exact ⟨rfl, HB.out⟩
        · have h0J : ((o.length : Int) == 0) = false := by rw [beq_eq_false_iff_ne]; omega
          by_cases hre : r = r2
          · have hd := HYE.out hh0 hre
            subst hre
            clear HNO HYE
            cases D with
            | true =>
              clear hd hog9 hoo hry9 hrx9 HSZ
              go_wp2_with fail
              refine hlk.mono ?_
              rintro e w10 ⟨rfl, hb10⟩
              have HB := Lib.hid (hBB.trans (hb10.mono hBB.size))
              clear hlk
              go_wp2
              go_ret
              exact ⟨rfl, HB.out⟩
            | false =>
              have hcl := hd rfl
              clear hd hry9 hrx9
              go_wp2_with fail
              refine hlk.mono ?_
              rintro e w10 ⟨rfl, hb10⟩
              have hog10 := owns_below hog9 hb10
              have hoo10 := owns_below hoo hb10
              have hB10 := hBB.trans (hb10.mono hBB.size)
              clear hlk hog9 hoo hb10 hBB
              have hal10 := (Below.refl w10.heap.size w10).alloc (Nat.le_refl _) (.cells #[] 9)
              have hlit10 : (w10.alloc (.cells #[] 9)).ownsRow w10.heap.size 9 1 (.slice (some ⟨w10.heap.size, 0, none⟩) 0 0) ([] : List ByteArray).length (cellsS []) := World.ownsRow_lit (base := w10.heap.size) (e := 9) (size := 1) w10 #[] 0 (Nat.le_refl _) (Nat.zero_le _) rfl
              have hogA := rd_owns (owns_below hog10 hal10)
              have hooA := owns_below hoo10 hal10
              have hooB := hoo10
              clear hog10 hooA hoo10
              go_wp2_with (at_builtin; refine qs.own_stepg (by rfl) _ _ rfl w10.heap.size (.slice (some ⟨w10.heap.size, 0, none⟩) 0 0) _ [] g rfl rfl hlit10 hogA (by simp; omega) (by rw [World.size_alloc]; omega) ?_)
              intro v11 w11 ho11 hg11 hi11
              have hB11 : Below w10.heap.size w10 w11 := hal10.grown hg11 (by rw [World.size_alloc]; omega) (fun j e => by have e2 : w10.heap.size = j := Option.some.inj e; omega)
              have hoo11 := rd_owns (owns_below hooB hB11)
              have hs11 := hB11.size
              have ho11b : w11.ownsRow w10.heap.size 9 1 v11 g.length (cellsS g) := by simpa using ho11
              clear hlit10 hogA hal10 hg11 hi11 hooB ho11
              go_wp2_with (at_builtin; refine qs.own_stepg (by rfl) _ _ rfl w10.heap.size v11 _ g o rfl rfl ho11b hoo11 (by omega) (by omega) ?_)
              intro v12 w12 ho12 hg12 hi12
              have hB12 : Below w10.heap.size w10 w12 := hB11.grown hg12 hB11.size (fun j e => (ho11b.lt j e).1)
              have hrd12 : Rd w12 v12 (cellsS (g ++ o)) := by simpa using rd_owns ho12
              have hcc := implClashes_any v12 (g ++ o) w12 hrd12 (by rw [List.length_append]; omega) HSZ.out
              rw [hcl] at hcc
              have HB12 := Lib.hid (hB10.trans (hB12.mono hB10.size))
              clear hoo11 ho11b hB11 hg12 hi12 ho12 hrd12 hB12 hB10
              go_wp2_with fail
              refine hcc.mono ?_
              rintro e w13 ⟨rfl, hb13⟩
              have HB13 := Lib.hid (HB12.out.trans (hb13.mono HB12.out.size))
              clear hcc hb13
              go_wp2
              go_ret
              exact ⟨rfl, HB13.out⟩
          · have hd := HNO.out (Or.inr hre)
            subst hd
            have hrn : (r != r2) = true := by rw [bne_iff_ne]; exact hre
            clear hog9 hoo hry9 hrx9 HSZ HYE HNO
            go_wp2_with fail
            refine hlk.mono ?_
            rintro e w10 ⟨rfl, hb10⟩
            have HB := Lib.hid (hBB.trans (hb10.mono hBB.size))
            clear hlk
            go_wp2
            go_ret
            exact ⟨rfl, HB.out⟩
      · have hry := rd_owns hob7
        have hyl := hxl
        have HYS := HXS
        have hb8 := hB7
        have hog8 := hog7
        clear hob7 hog7 hB7 HST ck c0 hfk
        go_wp2_with fail
        refine (implGrown_any (.slice (some ⟨gb, 0, none⟩) xs.length cb) (xs) (w7) hry (by omega) HYS.out).mono ?_
        rintro e w9 ⟨vo, rfl, hoo, hb9⟩
        have hs8 := hb8.size
        have hog9 := owns_below hog8 hb9
        have hry9 := rd_below hry hb9
        have hb99 := hb8.trans (hb9.mono hs8)
        have hrx9 := HR.out _ hb99
        have hs9 := hb99.size
        clear hog8 hry hb8 hb9
        have hlen2 : (grownT (xs)).1.length ≤ 192 := grown_text HYS.out
        have HSZ : Hid (∀ s ∈ g ++ (grownT (xs)).1, s.size ≤ 9223372036854775807) := fun s hs => by
          rcases List.mem_append.1 hs with h | h
          · rw [HGX.out] at h
            exact grown_size HXS.out h
          · exact grown_size HYS.out h
        have HNO : Hid ((grownT (xs)).1.length = 0 ∨ ¬ r = (grownT (xs)).2 → decide (xs = (xs)) = false) := fun h => alike_no (fun e => h0 (by simp [HGX.out, e])) (h.elim (fun h => Or.inl (List.eq_nil_of_length_eq_zero h)) (fun h => Or.inr (fun e => h (HRX.out.trans e))))
        have HYE : Hid (¬ (grownT (xs)).1.length = 0 → r = (grownT (xs)).2 → decide (xs = (xs)) = false → clashesB (g ++ (grownT (xs)).1) = true) := fun h1 h2 h3 => by
          rw [HGX.out]
          exact clash_yes (fun e => h0 (by simp [HGX.out, e])) (fun e => h1 (by simp [e])) (HRX.out.symm.trans h2) h3
        have hlk := likeTexts_any _ (.slice (some ⟨gb, 0, none⟩) xs.length cb) xs (xs) w9 hrx9 hry9 (by omega) (by omega)
        obtain ⟨D, hD⟩ : ∃ D, D = decide (xs = (xs)) := ⟨_, rfl⟩
        rw [← hD] at HNO HYE hlk
        obtain ⟨o, ho⟩ : ∃ o, o = (grownT (xs)).1 := ⟨_, rfl⟩
        obtain ⟨r2, hr2⟩ : ∃ r2, r2 = (grownT (xs)).2 := ⟨_, rfl⟩
        rw [← ho] at hoo hlen2 HSZ HNO HYE
        rw [← hr2] at HNO HYE ⊢
        clear ho hr2 hD
        obtain ⟨ao2, co, hvo⟩ := owns_slice hoo
        subst hvo
        have hBB := hb1.trans (hb99.mono hs1)
        by_cases hh0 : o.length = 0
        · have hd := HNO.out (Or.inl hh0)
          subst hd
          have h0J : ((o.length : Int) == 0) = true := by rw [hh0]; rfl
          clear hog9 hoo hry9 hrx9 HSZ HYE HNO
          go_wp2_with fail
          refine hlk.mono ?_
          rintro e w10 ⟨rfl, hb10⟩
          have HB := Lib.hid (hBB.trans (hb10.mono hBB.size))
          clear hlk
          go_wp2
          go_ret
          exact ⟨rfl, HB.out⟩
        · have h0J : ((o.length : Int) == 0) = false := by rw [beq_eq_false_iff_ne]; omega
          by_cases hre : r = r2
          · have hd := HYE.out hh0 hre
            subst hre
            clear HNO HYE
            cases D with
            | true =>
              clear hd hog9 hoo hry9 hrx9 HSZ
              go_wp2_with fail
              refine hlk.mono ?_
              rintro e w10 ⟨rfl, hb10⟩
              have HB := Lib.hid (hBB.trans (hb10.mono hBB.size))
              clear hlk
              go_wp2
              go_ret
              exact ⟨rfl, HB.out⟩
            | false =>
              have hcl := hd rfl
              clear hd hry9 hrx9
              go_wp2_with fail
              refine hlk.mono ?_
              rintro e w10 ⟨rfl, hb10⟩
              have hog10 := owns_below hog9 hb10
              have hoo10 := owns_below hoo hb10
              have hB10 := hBB.trans (hb10.mono hBB.size)
              clear hlk hog9 hoo hb10 hBB
              have hal10 := (Below.refl w10.heap.size w10).alloc (Nat.le_refl _) (.cells #[] 9)
              have hlit10 : (w10.alloc (.cells #[] 9)).ownsRow w10.heap.size 9 1 (.slice (some ⟨w10.heap.size, 0, none⟩) 0 0) ([] : List ByteArray).length (cellsS []) := World.ownsRow_lit (base := w10.heap.size) (e := 9) (size := 1) w10 #[] 0 (Nat.le_refl _) (Nat.zero_le _) rfl
              have hogA := rd_owns (owns_below hog10 hal10)
              have hooA := owns_below hoo10 hal10
              have hooB := hoo10
              clear hog10 hooA hoo10
              go_wp2_with (at_builtin; refine qs.own_stepg (by rfl) _ _ rfl w10.heap.size (.slice (some ⟨w10.heap.size, 0, none⟩) 0 0) _ [] g rfl rfl hlit10 hogA (by simp; omega) (by rw [World.size_alloc]; omega) ?_)
              intro v11 w11 ho11 hg11 hi11
              have hB11 : Below w10.heap.size w10 w11 := hal10.grown hg11 (by rw [World.size_alloc]; omega) (fun j e => by have e2 : w10.heap.size = j := Option.some.inj e; omega)
              have hoo11 := rd_owns (owns_below hooB hB11)
              have hs11 := hB11.size
              have ho11b : w11.ownsRow w10.heap.size 9 1 v11 g.length (cellsS g) := by simpa using ho11
              clear hlit10 hogA hal10 hg11 hi11 hooB ho11
              go_wp2_with (at_builtin; refine qs.own_stepg (by rfl) _ _ rfl w10.heap.size v11 _ g o rfl rfl ho11b hoo11 (by omega) (by omega) ?_)
              intro v12 w12 ho12 hg12 hi12
              have hB12 : Below w10.heap.size w10 w12 := hB11.grown hg12 hB11.size (fun j e => (ho11b.lt j e).1)
              have hrd12 : Rd w12 v12 (cellsS (g ++ o)) := by simpa using rd_owns ho12
              have hcc := implClashes_any v12 (g ++ o) w12 hrd12 (by rw [List.length_append]; omega) HSZ.out
              rw [hcl] at hcc
              have HB12 := Lib.hid (hB10.trans (hB12.mono hB10.size))
              clear hoo11 ho11b hB11 hg12 hi12 ho12 hrd12 hB12 hB10
              go_wp2_with fail
              refine hcc.mono ?_
              rintro e w13 ⟨rfl, hb13⟩
              have HB13 := Lib.hid (HB12.out.trans (hb13.mono HB12.out.size))
              clear hcc hb13
              go_wp2
              go_ret
              exact ⟨rfl, HB13.out⟩
          · have hd := HNO.out (Or.inr hre)
            subst hd
            have hrn : (r != r2) = true := by rw [bne_iff_ne]; exact hre
            clear hog9 hoo hry9 hrx9 HSZ HYE HNO
            go_wp2_with fail
            refine hlk.mono ?_
            rintro e w10 ⟨rfl, hb10⟩
            have HB := Lib.hid (hBB.trans (hb10.mono hBB.size))
            clear hlk
            go_wp2
            go_ret
            exact ⟨rfl, HB.out⟩
set_option maxRecDepth 100000 in
theorem lifted (os : Os) (started : os.Started) (H : Type) (enc : TypeId × Value → H) :
    ReturnsInHanded {} Try.checked os 3 .any (Rows.fnMerkleSpec.pre6 enc Try.prog Try.f3 Rows.fnMerkleRow.domain false) (Rows.fnMerkleSpec.post enc Try.prog Try.f3 false true false false) := by
  refine returnsInHanded_of_change (C := Try.checked) own started (by kernel_rfl) Try.func3
    (ChangeSpec.witness6 (enc := enc) (C := Try.checked) false ⟨#[], #[.slice none 0 0], []⟩ 8 (by kernel_rfl) (by kernel_rfl) (by kernel_rfl) (by kernel_rfl)) ?_
  intro W base args ds gs before hval0 hW hcnd _
  have hval : ∀ (j : Nat) t v, Try.f3.params[j]? = some t → args[j]? = some v → Value.okWide Try.prog W .any base t v := hval0
  have hW' := hW
  obtain ⟨p, q, hA0, hV, rfl, hfz, hnd⟩ := hW
  have hA : DataW.TrodAll enc Try.prog W 0 (fun _ => true) true Try.f3.params.toList args.toList ds p := hA0
  rw [Try.params3] at hA hval
  obtain ⟨v0, vs0, d0, ds0, p0, q0, hargs0, rfl, rfl, h0, r0⟩ := trodAll_cons hA
  obtain ⟨rfl, rfl, rfl⟩ := trodAll_nil r0
  obtain rfl : args = #[v0] := by cases args; simp_all
  obtain ⟨rfl, rfl⟩ := trodVars_none hV
  obtain ⟨a0, len0, cap0, rfl⟩ := okWide_slice Try.underlying22 (hval 0 22 v0 rfl rfl)
  have k0 := h0
  have lt0 : ∀ x ∈ p0, x.block < W.heap.size := by obtain ⟨m, hm⟩ := k0; exact DataW.trod_lt m _ _ _ hm
  obtain ⟨zs0, hr0, hs0⟩ : ∃ zs : List Int, Rd W (.slice a0 len0 cap0) (zs.map (Value.int .u8)) ∧ ((∀ n ∈ zs, (Lit.int .u8 n).wf = true) ∧ zs.length ≤ 9223372036854775807) := by
    obtain ⟨fuel, hf⟩ := h0
    rcases open_ints Try.underlying22 Try.underlying5 (by kernel_rfl) hf with ⟨hcs, _⟩ | ⟨x, l, c, zs, hcs, _, hl, hm, hz, _, hcell, hwz⟩
    · simp [Value.cells] at hcs
      obtain ⟨rfl, rfl, rfl⟩ := hcs
      exact ⟨[], ⟨none, 0, rfl, Nat.le_refl _, fun h => absurd rfl h⟩, (fun x hx => absurd hx List.not_mem_nil), Nat.zero_le _⟩
    · simp [Value.cells] at hcs
      obtain ⟨rfl, rfl, rfl⟩ := hcs
      exact arg_ints .u8 hl hm (by simpa using hz) hcell hwz
  clear hA0 hval0
  refine (walk _ zs0 W hr0 (wf_bytes hs0.1) hs0.2).mono fun e W' ⟨he, bel⟩ => ?_
  subst he
  exact ⟨_, rfl, _, _, _, [], _, [], hW', trodAll_mk1 (shut_bool Try.underlying4 _), (trodAll_cons_mk (Below.trod laidOut (by kernel_rfl) (of_decide_eq_true (by kernel_rfl)) k0 bel lt0) trodAll_mk0), rfl, bel.frame _, fun h => by cases h⟩

theorem over : Rows.fnMerkleRow.holds Try.pinned (OpenSpec.ofChange Rows.fnMerkleSpec) :=
  OpenClaim.holds_of_wide 3 Try.f3 rfl rfl rfl rfl rfl rfl rfl ⟨rfl, rfl, rfl, rfl, rfl⟩ rfl rfl rfl rfl rfl (by kernel_rfl) Try.func3 (by kernel_rfl)
    (of_decide_eq_true (by kernel_rfl)) (by unfold Func.isWrapper; first | (rw [if_pos (by decide +kernel)]; kernel_rfl) | (rw [if_neg (by decide +kernel)]; exact ⟨rfl, rfl⟩))
    (fun os started H enc _ => lifted os started H enc)

theorem proved : Rows.FnMerkleSaid := over
end Go.Proofs.Ytcdfikfkmcpnoaf.fnMerkle
