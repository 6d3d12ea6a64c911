/- CONTRACTS: the specification's Get, Drop, l7Put. -/
import Derived.Test.YtfoncmeplofedabStoS
import Derived.Test.YtfoncmeplofedabBlobA
import Derived.Test.YtfoncmeplofedabIntsI
namespace Go.Proofs.Ytfoncmeplofedab
open Go.RowKit
set_option linter.unusedVariables false
theorem find_cases (l : List Bl) (d : Int) : (∃ k, k < l.length ∧ findI l d = (k : Int) ∧ findB l d = some (l.getD k bl0) ∧ (l.getD k bl0).1 = d) ∨ (findI l d = -1 ∧ findB l d = none ∧ ∀ p ∈ l, p.1 ≠ d) := by
  cases h : idxB l d with
  | none =>
    right
    have hn : ∀ p ∈ l, p.1 ≠ d := by
      unfold idxB at h
      rw [List.findIdx?_eq_none_iff] at h
      exact fun p hp e => by
        have := h p hp
        simp [e] at this
    exact ⟨by unfold findI; rw [h], findB_none.2 hn, hn⟩
  | some k =>
    left
    have h2 := h
    unfold idxB at h2
    rw [List.findIdx?_eq_some_iff_getElem] at h2
    obtain ⟨hk, h3, h4⟩ := h2
    have e : (l.getD k bl0).1 = d := by rw [getD_at hk]; exact beq_iff_eq.1 h3
    refine ⟨k, hk, by unfold findI; rw [h], (idxB_is hk e fun j hj => ?_).2, e⟩
    rw [getD_at (by omega)]
    have := h4 j hj
    simpa using this
theorem rd_shape {w : World} {v : Value} {xs : List Value} (h : Rd w v xs) : ∃ ao cap, v = .slice ao xs.length cap := by
  obtain ⟨ao, cap, hv, _⟩ := h
  exact ⟨ao, cap, hv⟩
def getV (r : Option ByteArray) : Value := match r with
  | some t => .tuple #[.string t, .bool true]
  | none => .tuple #[.string ⟨#[]⟩, .bool false]
set_option maxRecDepth 100000 in
theorem specGet_any (va : Value) (l : List Bl) (d : Int) (w : World) (ha : RdB w va l) (hl : l.length ≤ 1048576) (hs : ∀ p ∈ l, p.2.size ≤ 1048576) :
    Calls Try.prog 60 #[va, .int .i64 d] w fun e w' => e = .returned (getV (getT l d)) ∧ Below w.heap.size w w' := by
  have hf := fun w' => l7Find_any va l d w'
  have hso := fun w' => specStoreOk_any va l w'
  have HG0 : Hid (storeB l = false → getT l d = none) := fun h => by unfold getT; rw [h]; rfl
  have HG1 : Hid (storeB l = true → getT l d = (findB l d).map (·.2)) := fun h => by unfold getT; rw [if_pos h]
  have HFD := Lib.hid (find_cases l d)
  generalize getT l d = R at HG0 HG1 ⊢
  cases hok : storeB l with
  | false =>
    rw [HG0.out hok]
    rw [hok] at hso
    obtain ⟨ao, cap, rfl⟩ := rdB_shape ha
    generalize findI l d = r at hf
    clear HG0 HG1 HFD hok
    go_enter Try.func60, Try.ntmps60
    go_wp2_with fail
    refine (hf _ ha hl).mono ?_
    rintro e w8 ⟨rfl, rfl⟩
    go_wp2_with fail
    refine (hso _ ha hl hs).mono ?_
    rintro e w9 ⟨rfl, hb9⟩
    go_wp2
    go_ret2
    exact ⟨rfl, hb9⟩
  | true =>
    have HR := Lib.hid (HG1.out hok)
    rw [hok] at hso
    clear HG0 HG1 hok
    rcases HFD.out with ⟨k, hk, hfi, hfb, hd⟩ | ⟨hfi, hfb, hno⟩
    · rw [hfi] at hf
      have HR2 : Hid (R = some (l.getD k bl0).2) := by have h := HR.out; rw [hfb] at h; exact h
      obtain ⟨hn0, b, off, cap, rfl, hcap, hlt, hc⟩ : 0 < l.length ∧ ∃ b off cap, va = .slice (some ⟨b, off, none⟩) l.length cap ∧ l.length ≤ cap ∧ b < w.heap.size ∧ ∀ j, j < l.length → w.cell? ⟨b, off + j * 2, none⟩ = some (.int .i64 (l.getD j bl0).1) ∧ w.cell? ⟨b, off + j * 2 + 1, none⟩ = some (.string (l.getD j bl0).2) := by
        rcases rdB_cases ha with ⟨h0, _⟩ | h
        · subst h0; exact absurd hk (Nat.not_lt_zero _)
        · exact h
      obtain ⟨c0, c1⟩ := hc k hk
      obtain ⟨n, hn⟩ : ∃ n, n = l.length := ⟨_, rfl⟩
      obtain ⟨x, hx⟩ : ∃ x, x = (l.getD k bl0).2 := ⟨_, rfl⟩
      obtain ⟨y, hy⟩ : ∃ y, y = (l.getD k bl0).1 := ⟨_, rfl⟩
      rw [← hx] at c1 HR2
      rw [← hy] at c0
      have hf1 := fun w' h => hf w' h hl
      have hs1 := fun w' h => hso w' h hl hs
      rw [← hn] at hk hl ha hcap hf1 hs1 ⊢
      clear HR HFD hfb hfi hd hc hx hy hn hf hso hs hn0
      have hkI : ¬ (k : Int) < 0 := by omega
      go_enter Try.func60, Try.ntmps60
      go_wp2_with fail
      refine (hf1 _ ha).mono ?_
      rintro e w8 ⟨rfl, rfl⟩
      go_wp2_with fail
      refine (hs1 _ ha).mono ?_
      rintro e w9 ⟨rfl, hb9⟩
      have d0 := (hb9.cell (p := ⟨b, off + k * 2, none⟩) hlt).trans c0
      have d1 := (hb9.cell (p := ⟨b, off + k * 2 + 1, none⟩) hlt).trans c1
      clear c0 c1
      go_wp2
      go_ret2
      exact ⟨by rw [HR2.out]; rfl, hb9⟩
    · rw [hfi] at hf
      have HR2 : Hid (R = none) := by have h := HR.out; rw [hfb] at h; exact h
      obtain ⟨ao, cap, rfl⟩ := rdB_shape ha
      clear HR HFD hfb hfi
      go_enter Try.func60, Try.ntmps60
      go_wp2_with fail
      refine (hf _ ha hl).mono ?_
      rintro e w8 ⟨rfl, rfl⟩
      go_wp2_with fail
      refine (hso _ ha hl hs).mono ?_
      rintro e w9 ⟨rfl, hb9⟩
      go_wp2
      go_ret2
      exact ⟨by rw [HR2.out]; rfl, hb9⟩
theorem filter_snoc {α} (p : α → Bool) (l : List α) (z : α) (k : Nat) (hk : k < l.length) : (l.take (k + 1)).filter p = (l.take k).filter p ++ (if p (l.getD k z) then [l.getD k z] else []) := by
  have e : l.getD k z = l[k] := by simp [List.getD, hk]
  rw [List.take_succ_eq_append_getElem hk, List.filter_append, e]
  congr 1
  cases h : p l[k] <;> simp [h]
set_option maxHeartbeats 1000000 in
set_option maxRecDepth 100000 in
theorem specDrop_any (va vd : Value) (l : List Bl) (ds : List Int) (w : World) (ha : RdB w va l) (hd : Rd w vd (cellsInt64S ds)) (hl1 : l.length ≤ 1048576) (hs : ∀ p ∈ l, p.2.size ≤ 1048576) (hld : ds.length ≤ 1048576) :
    Calls Try.prog 58 #[va, vd] w fun e w' => ∃ v, e = .returned v ∧ w'.ownsRow w.heap.size 70 2 v (dropT l ds).length (blC (dropT l ds)) ∧ Below w.heap.size w w' := by
  have hso := fun w' h => specStoreOk_any va l w' h (by omega) hs
  have hhas := fun w' x h => l1Has_any vd ds x w' h hld
  have HG0 : Hid (storeB l = false → dropT l ds = []) := fun h => by unfold dropT; rw [h]; rfl
  have HG1 : Hid (storeB l = true → dropT l ds = l.filter fun p => !(ds.contains p.1)) := fun h => by unfold dropT; rw [if_pos h]
  generalize dropT l ds = R at HG0 HG1 ⊢
  have hB0 := (Below.refl w.heap.size w).alloc (Nat.le_refl _) (.cells #[] 70)
  have ho0 : (w.alloc (.cells #[] 70)).ownsRow w.heap.size 70 2 (.slice (some ⟨w.heap.size, 0, none⟩) 0 0) 0 (blC []) := World.ownsRow_lit (base := w.heap.size) (e := 70) (size := 2) w #[] 0 (Nat.le_refl _) (Nat.zero_le _) rfl
  have ha1 := rdB_below ha hB0
  have hd1 := rd_below hd hB0
  cases hok : storeB l with
  | false =>
    have HR := HG0.out hok
    subst HR
    rw [hok] at hso
    clear HG0 HG1 hok
    obtain ⟨ao, cap, rfl⟩ := rdB_shape ha
    go_enter Try.func58, Try.ntmps58
    go_wp2_with fail
    refine (hso _ ha1).mono ?_
    rintro e w9 ⟨rfl, hb9⟩
    have HB9 := Lib.hid (hB0.trans (hb9.mono hB0.size))
    have HO9 := Lib.hid (owns_below ho0 hb9)
    clear hb9 hB0 ho0
    go_wp2
    go_ret
    exact ⟨_, rfl, HO9.out, HB9.out⟩
  | true =>
    have HR := HG1.out hok
    subst HR
    have hl : l.length ≤ 524288 := by have := (storeB_iff.1 hok).1; omega
    clear hl1
    rw [hok] at hso
    clear HG0 HG1 hok
    rcases rdB_cases ha with ⟨h0, ao, cap, rfl⟩ | ⟨hp, b, off, cap, rfl, _, hlt, hc⟩
    · subst h0
      go_enter Try.func58, Try.ntmps58
      go_wp2_with fail
      refine (hso _ ha1).mono ?_
      rintro e w9 ⟨rfl, hb9⟩
      have HB9 := Lib.hid (hB0.trans (hb9.mono hB0.size))
      have HO9 := Lib.hid (owns_below ho0 hb9)
      clear hb9 hB0 ho0
      go_wp2
      refine wp_loop_rounds 1 ?_
      rw [rounds_succ]
      go_wp2
      go_ret
      exact ⟨_, rfl, HO9.out, HB9.out⟩
    have HA := Lib.hid hc
    have HF : Hid (∀ k, k < l.length → (l.take (k + 1)).filter (fun p => !(ds.contains p.1)) = (l.take k).filter (fun p => !(ds.contains p.1)) ++ (if !(ds.contains (l.getD k bl0).1) then [l.getD k bl0] else [])) := fun k hk => filter_snoc _ l bl0 k hk
    have HFL : Hid (∀ k, ((l.take k).filter (fun p => !(ds.contains p.1))).length ≤ k) := fun k => Nat.le_trans (List.length_filter_le _ _) (List.length_take_le _ _)
    have HFE : Hid (l.filter (fun p => !(ds.contains p.1)) = (l.take l.length).filter (fun p => !(ds.contains p.1))) := by show _ = _; rw [List.take_length]
    generalize l.filter (fun p => !(ds.contains p.1)) = R at HFE ⊢
    have HF0 : Hid ((l.take 0).filter (fun p => !(ds.contains p.1)) = []) := by show _ = _; simp
    obtain ⟨F, hF⟩ : ∃ F : Nat → List Bl, F = fun k => (l.take k).filter (fun p => !(ds.contains p.1)) := ⟨_, rfl⟩
    have hF' : ∀ k, (l.take k).filter (fun p => !(ds.contains p.1)) = F k := fun k => by rw [hF]
    simp only [hF'] at HF HFL HFE HF0
    obtain ⟨n, hn⟩ : ∃ n, n = l.length := ⟨_, rfl⟩
    rw [← hn] at hp hl ha ha1 HA HF HFE hso ⊢
    clear hc hn hs hF hF'
    go_enter Try.func58, Try.ntmps58
    go_wp2_with fail
    refine (hso _ ha1).mono ?_
    rintro e w9 ⟨rfl, hb9⟩
    have hB9 := hB0.trans (hb9.mono hB0.size)
    have ho9 := owns_below ho0 hb9
    clear hb9 hB0 ho0 hso ha1 hd1
    go_wp2
    go_loopw [5, 6] (fun v i wr => ∃ k : Nat, k ≤ n ∧ i = .int .i64 k ∧ wr.ownsRow w.heap.size 70 2 v (F k).length (blC (F k)) ∧ Below w.heap.size w wr) (fun _ i _ => n - (intOf i).toNat)
    case atStart => exact ⟨0, Nat.zero_le _, rfl, by rw [HF0.out]; exact ho9, hB9⟩
    case round =>
      obtain ⟨k, hk, rfl, ho, hb⟩ := hrel
      clear hB9 ho9
      by_cases hltk : k < n
      focus
        obtain ⟨c0, c1⟩ := HA.out k hltk
        have d0 := (hb.cell (p := ⟨b, off + k * 2, none⟩) hlt).trans c0
        have d1 := (hb.cell (p := ⟨b, off + k * 2 + 1, none⟩) hlt).trans c1
        have HFk := Lib.hid (HF.out k hltk)
        have hfl := HFL.out k
        obtain ⟨x, hx⟩ : ∃ x, x = l.getD k bl0 := ⟨_, rfl⟩
        rw [← hx] at d0 d1 HFk
        obtain ⟨x1, x2⟩ := x
        simp only at d0 d1 HFk
        clear hx c0 c1
        have hdb := rd_below hd hb
        have hcall := hhas wr x1 hdb
        have hs1 := hb.size
        cases hcn : ds.contains x1 with
        | true =>
          rw [hcn] at hcall HFk
          have HFs : Hid (F (k + 1) = F k) := by show _ = _; have h := HFk.out; simpa using h
          clear HFk
          go_wp2_with fail
          refine hcall.mono ?_
          rintro e w8 ⟨rfl, rfl⟩
          go_wp2
          go_roundw
          case rel => exact ⟨k + 1, by omega, by go_num, by rw [HFs.out]; exact ho, hb⟩
          case measure => simp [intOf]; omega
        | false =>
          rw [hcn] at hcall HFk
          have HFs : Hid (F (k + 1) = F k ++ [(x1, x2)]) := by show _ = _; have h := HFk.out; simpa using h
          clear HFk
          go_wp2_with fail
          refine hcall.mono ?_
          rintro e w8 ⟨rfl, rfl⟩
          obtain ⟨acc, hacc⟩ : ∃ acc, acc = F k := ⟨_, rfl⟩
          rw [← hacc] at ho HFs hfl
          clear hacc hcall
          go_wp2_with (at_builtin; refine wpList_append_blobs rfl _ _ rfl w.heap.size _ acc [(x1, x2)] _ rfl rfl (ho.alloc _) (rdB_one _ (x1, x2) 70) (by rw [List.length_singleton]; omega) (by rw [World.size_alloc]; omega) ?_)
          intro v3 w3 ho3 hg3
          have hb3 : Below w.heap.size w w3 := (hb.alloc (by omega) _).grown hg3 (by simp; omega) (fun k hk => (ho.lt k hk).1)
          have ho4 : w3.ownsRow w.heap.size 70 2 v3 (F (k + 1)).length (blC (F (k + 1))) := by
            rw [HFs.out, List.length_append]
            exact ho3
          clear ho3 hg3 ho hb d0 d1
          go_wp2
          go_roundw
          case rel => exact ⟨k + 1, by omega, by go_num, ho4, hb3⟩
          case measure => simp [intOf]; omega
      obtain rfl : k = n := by omega
      rw [← HFE.out] at ho
      go_wp2
      go_ret
      exact ⟨_, rfl, ho, hb⟩
/-- 'list[:k]' -/
theorem slB_to {w : World} {v : Value} {l : List Bl} (h : RdB w v l) (k : Nat) (hk : k ≤ l.length) : ∃ u, (∀ w', Below w.heap.size w w' → RdB w' u (l.take k)) ∧ ∀ W : World, (Instr.slice 55 v none (some (.int .i64 (k : Int))) none).run Try.prog W = .ok u W := by
  obtain ⟨ao, cap, rfl, hcap, hx⟩ := h
  obtain ⟨i0, hi, hz0, hz1, hz2⟩ := info_parts Try.infoBl
  have hel : Try.prog.elem 55 = 70 := by kernel_rfl
  have hsz : ∀ W : World, (sizeOf 70).run Try.prog W = .ok 2 W := fun W => by simp [sizeOf, typeInfo, hi, hz1]
  refine ⟨.slice ao k cap, fun w' hb => rdB_take (rdB_below ⟨ao, cap, rfl, hcap, hx⟩ hb) k hk, fun W => ?_⟩
  rw [run_slice_h W 55 _ _ cap (by rw [hel]; exact Try.underlying55) .i64 _ (by omega) (by omega), hel, hsz]
  by_cases hc0 : cap = 0
  · simp [Result.andThen, sliced, hc0]
  · cases ao with
    | none => simp [Result.andThen, sliced]
    | some a => simp [Result.andThen, sliced, hc0, Addr.add]
/-- 'list[k:]' -/
theorem slB_from {w : World} {v : Value} {l : List Bl} (h : RdB w v l) (k : Nat) (hk : k ≤ l.length) : ∃ u, (∀ w', Below w.heap.size w w' → RdB w' u (l.drop k)) ∧ ∀ W : World, (Instr.slice 55 v (some (.int .i64 (k : Int))) none none).run Try.prog W = .ok u W := by
  obtain ⟨ao, cap, rfl, hcap, hx⟩ := h
  obtain ⟨i0, hi, hz0, hz1, hz2⟩ := info_parts Try.infoBl
  have hel : Try.prog.elem 55 = 70 := by kernel_rfl
  have hsz : ∀ W : World, (sizeOf 70).run Try.prog W = .ok 2 W := fun W => by simp [sizeOf, typeInfo, hi, hz1]
  have hld : (l.drop k).length = l.length - k := List.length_drop
  refine ⟨sliced ao k l.length cap 2, fun w' hb => ?_, fun W => ?_⟩
  · unfold sliced
    refine ⟨_, cap - k, by rw [hld], by omega, fun hne => ?_⟩
    have hlt : k < l.length := by
      rcases Nat.lt_or_ge k l.length with g | g
      · exact g
      · exact absurd (List.drop_of_length_le g) hne
    obtain ⟨b, off, rfl, hbl, hc⟩ := hx (fun h0 => by subst h0; exact absurd hlt (Nat.not_lt_zero _))
    have hr : RdB w' (.slice (some ⟨b, off + k * 2, none⟩) (l.length - k) (cap - k)) (l.drop k) := rdB_drop (rdB_below ⟨_, cap, rfl, hcap, fun _ => ⟨b, off, rfl, hbl, hc⟩⟩ hb) k (cap - k) hk (by omega)
    obtain ⟨ao2, cap2, hv, _, hx2⟩ := hr
    simp only [Value.slice.injEq] at hv
    obtain ⟨rfl, _, _⟩ := hv
    have e : (if cap = k then some (⟨b, off, none⟩ : Addr) else (some (⟨b, off, none⟩ : Addr)).map (·.add (k * 2))) = some ⟨b, off + k * 2, none⟩ := by
      rw [if_neg (by omega)]
      exact congrArg some (Addr.add_lit ..)
    rw [e]
    exact hx2 hne
  · rw [run_slice_l W 55 _ _ cap (by rw [hel]; exact Try.underlying55) .i64 _ (by omega) (by omega), hel, hsz]
    simp [Result.andThen]
theorem ins_at {l : List Bl} {x : Bl} {k : Nat} (hr : l.Pairwise (fun p q => p.1 < q.1)) (hn : ∀ p ∈ l, p.1 ≠ x.1) (hk : k ≤ l.length) (h1 : ∀ j, j < k → (l.getD j bl0).1 < x.1) (h2 : k < l.length → ¬ (l.getD k bl0).1 < x.1) : insB l x = l.take k ++ [x] ++ l.drop k := by
  have e : l = l.take k ++ l.drop k := (List.take_append_drop k l).symm
  have ht : ∀ p ∈ l.take k, p.1 < x.1 := fun p hp => by
    obtain ⟨j, hj, rfl⟩ := List.getElem_of_mem hp
    rw [List.length_take] at hj
    have := h1 j (by omega)
    rw [getD_at (by omega)] at this
    rw [List.getElem_take]
    exact this
  have hd : ∀ p ∈ l.drop k, x.1 < p.1 := fun p hp => by
    obtain ⟨j, hj, rfl⟩ := List.getElem_of_mem hp
    rw [List.length_drop] at hj
    have h3 := h2 (by omega)
    rw [getD_at (by omega)] at h3
    rw [List.getElem_drop]
    have h4 := hn l[k + j] (List.getElem_mem _)
    rcases Nat.eq_zero_or_pos j with h0 | h0
    · subst h0
      simp only [Nat.add_zero] at h4 ⊢
      omega
    · have h5 := List.pairwise_iff_getElem.1 hr k (k + j) (by omega) (by omega) (by omega)
      omega
  unfold insB
  have a1 : l.filter (fun q => decide (q.1 < x.1)) = l.take k := by
    conv => lhs; rw [e]
    rw [List.filter_append, List.filter_eq_self.2 (fun p hp => decide_eq_true (ht p hp)), List.filter_eq_nil_iff.2 (fun p hp => by have := hd p hp; simp; omega), List.append_nil]
  have a2 : l.filter (fun q => decide (x.1 < q.1)) = l.drop k := by
    conv => lhs; rw [e]
    rw [List.filter_append, List.filter_eq_self.2 (fun p hp => decide_eq_true (hd p hp)), List.filter_eq_nil_iff.2 (fun p hp => by have := ht p hp; simp; omega), List.nil_append]
  rw [a1, a2, List.append_assoc]
  rfl
end Go.Proofs.Ytfoncmeplofedab
