/- CONTRACTS: the specification's l1In, l1Has, l10Told, Lru, Fifo, Best, Distinct. -/
import Derived.Test.YtncmeocjiinmfanBelS
namespace Go.Proofs.Ytncmeocjiinmfan
open Go.RowKit
set_option linter.unusedVariables false
abbrev okR (c : List Int) (r : Int) : Prop := c.length ≤ 60 ∧ 1 ≤ r ∧ r ≤ 20
/-- how many miss, -1 where the arguments are out of bounds -/
def missR (ru : Nat) (c : List Int) (r : Int) : Int := if okR c r then (missL ru r.toNat c [] : Int) else -1
theorem missR_ok {ru : Nat} {c : List Int} {r : Int} (h : okR c r) : missR ru c r = (missL ru r.toNat c [] : Int) := by unfold missR; rw [if_pos h]
theorem missR_no {ru : Nat} {c : List Int} {r : Int} (h : ¬ okR c r) : missR ru c r = -1 := by unfold missR; rw [if_neg h]
/-- how many unlike ones -/
def distT (c : List Int) : Int := if c.length ≤ 60 then ((distK c []).length : Int) else -1
theorem l1In10_any (a lo hi : Int) (w : World) : Calls Try.prog 24 #[.int .i64 a, .int .i64 lo, .int .i64 hi] w fun e w' => e = .returned (.bool (decide (lo ≤ a) && decide (a ≤ hi))) ∧ w' = w := by
  by_cases h : lo ≤ a
  · go_enter Try.func24, Try.ntmps24
    go_wp2
    go_ret
    exact ⟨by simp [h], rfl⟩
  · go_enter Try.func24, Try.ntmps24
    go_wp2
    go_ret
    exact ⟨by simp; omega, rfl⟩
set_option maxRecDepth 100000 in
theorem l1Has10_any (va : Value) (l : List Int) (d : Int) (w : World) (ha : Rd w va (cellsInt64S l)) (hl : l.length ≤ 4194304) :
    Calls Try.prog 35 #[va, .int .i64 d] w fun e w' => e = .returned (.bool (l.contains d)) ∧ w' = w := by
  have hla : (cellsInt64S l).length = l.length := by simp
  rcases rd_cases ha with ⟨h0, ao, cap, rfl⟩ | ⟨hp, b, off, cap, rfl, _, hlt, hc⟩
  · have hx : l = [] := by simpa using h0
    subst hx
    go_enter Try.func35, Try.ntmps35
    go_wp2
    refine wp_loop_rounds 1 ?_
    rw [rounds_succ]
    go_wp2
    go_ret
    exact ⟨rfl, rfl⟩
  rw [hla] at hc hp ⊢
  have HA : Hid (∀ j, j < l.length → w.cell? ⟨b, off + j, none⟩ = some (.int .i64 (l.getD j 0))) := fun j hj => (hc j hj).trans (ints_get _ l j hj)
  have HY : Hid (∀ k, k < l.length → l.getD k 0 = d → l.contains d = true) := fun k hk h => by
    have e : l.getD k 0 = l[k] := by simp [List.getD, hk]
    rw [e] at h
    rw [← h]
    simp
  have HN : Hid ((∀ j, j < l.length → l.getD j 0 ≠ d) → l.contains d = false) := fun h => by
    cases hcn : l.contains d with
    | false => rfl
    | true =>
      have hm : d ∈ l := by simpa using hcn
      obtain ⟨j, hj, e⟩ := List.getElem_of_mem hm
      exact absurd (by simp [List.getD, hj, e]) (h j hj)
  generalize l.contains d = r at HY HN ⊢
  obtain ⟨n, hn⟩ : ∃ n, n = l.length := ⟨_, rfl⟩
  rw [← hn] at hp hl HA HY HN ⊢
  clear hc ha hn hla
  go_enter Try.func35, Try.ntmps35
  go_wp2
  go_loop [5] (fun i => ∃ k : Nat, k ≤ n ∧ i = .int .i64 k ∧ Hid (∀ j, j < k → l.getD j 0 ≠ d)) (fun i => n - (intOf i).toNat)
  case atStart => exact ⟨0, Nat.zero_le _, rfl, fun j h => by omega⟩
  case round =>
    obtain ⟨k, hk, rfl, hno⟩ := hrel
    by_cases hltk : k < n
    focus
      have d0 := HA.out k hltk
      have HYk := Lib.hid (fun h => HY.out k hltk h)
      have hnew : Hid (l.getD k 0 ≠ d → ∀ j, j < k + 1 → l.getD j 0 ≠ d) := fun h j hj => by
        rcases Nat.lt_or_ge j k with g | g
        · exact hno.out j g
        · obtain rfl : j = k := by omega
          exact h
      obtain ⟨x, hx⟩ : ∃ x, x = l.getD k 0 := ⟨_, rfl⟩
      rw [← hx] at d0 HYk hnew
      clear hx hno
      by_cases hxd : x = d
      focus
        have HR := Lib.hid (HYk.out hxd)
        subst hxd
        clear HYk hnew
        go_wp2
        go_ret
        exact ⟨by rw [HR.out]; rfl, rfl⟩
      have HS := Lib.hid (hnew.out hxd)
      have g1 : (x == d) = false := beq_eq_false_iff_ne.2 hxd
      clear HYk hnew
      go_wp2
      go_round
      case rel => exact ⟨k + 1, by omega, by go_num, HS⟩
      case measure => simp [intOf]; omega
    have HR := Lib.hid (HN.out (fun j hj => hno.out j (by omega)))
    go_wp2
    go_ret
    exact ⟨by rw [HR.out]; rfl, rfl⟩
theorem l10Told_any (va : Value) (c : List Int) (r : Int) (w : World) (ha : Rd w va (cellsInt64S c)) :
    Calls Try.prog 32 #[va, .int .i64 r] w fun e w' => e = .returned (.bool (decide (okR c r))) ∧ w' = w := by
  have hla : (cellsInt64S c).length = c.length := by simp
  obtain ⟨ao, cap, rfl, hcap, hx⟩ := ha
  rw [hla]
  have hin := l1In10_any r 1 20 w
  have HD : Hid (c.length ≤ 60 → (decide (okR c r)) = (decide (1 ≤ r) && decide (r ≤ 20))) := fun h => by
    unfold okR
    simp [h]
  have HN : Hid (¬ c.length ≤ 60 → (decide (okR c r)) = false) := fun h => by
    unfold okR
    simp [h]
  generalize decide (okR c r) = d at HD HN ⊢
  obtain ⟨n, hn⟩ : ∃ n, n = c.length := ⟨_, rfl⟩
  rw [← hn] at HD HN ⊢
  clear hn hla hcap hx
  by_cases h : n ≤ 60
  · have hI : (n : Int) ≤ 60 := by omega
    have HR := Lib.hid (HD.out h)
    clear HD HN
    go_enter Try.func32, Try.ntmps32
    go_wp2_with fail
    refine hin.mono ?_
    rintro e w2 ⟨rfl, rfl⟩
    go_wp2
    go_ret
    exact ⟨by rw [HR.out]; rfl, rfl⟩
  · have hI : ¬ (n : Int) ≤ 60 := by omega
    have HR := Lib.hid (HN.out h)
    clear HD HN
    go_enter Try.func32, Try.ntmps32
    go_wp2
    go_ret
    exact ⟨by rw [HR.out]; rfl, rfl⟩
theorem specLru_any (va : Value) (c : List Int) (r : Int) (w : World) (ha : Rd w va (cellsInt64S c)) :
    Calls Try.prog 15 #[va, .int .i64 r] w fun e w' => e = .returned (.int .i64 (missR 0 c r)) ∧ Below w.heap.size w w' := by
  have htold := l10Told_any va c r w ha
  by_cases h : okR c r
  · rw [missR_ok h]
    rw [decide_eq_true h] at htold
    obtain ⟨m, rfl⟩ : ∃ m : Nat, r = m := ⟨r.toNat, by have := h.2.1; omega⟩
    rw [Int.toNat_natCast]
    have hcall := l10Misses_any va c m 0 w ha h.1 (by have := h.2.1; omega) (by have := h.2.2; omega) (by omega)
    clear ha h
    go_enter Try.func15, Try.ntmps15
    go_wp2_with fail
    refine htold.mono ?_
    rintro e w2 ⟨rfl, rfl⟩
    go_wp2_with fail
    refine hcall.mono ?_
    rintro e w3 ⟨rfl, hb⟩
    go_wp2
    go_ret
    exact ⟨rfl, hb⟩
  · rw [missR_no h]
    rw [decide_eq_false h] at htold
    clear ha h
    go_enter Try.func15, Try.ntmps15
    go_wp2_with fail
    refine htold.mono ?_
    rintro e w2 ⟨rfl, rfl⟩
    go_wp2
    go_ret
    exact ⟨rfl, Below.refl _ _⟩
theorem specFifo_any (va : Value) (c : List Int) (r : Int) (w : World) (ha : Rd w va (cellsInt64S c)) :
    Calls Try.prog 19 #[va, .int .i64 r] w fun e w' => e = .returned (.int .i64 (missR 1 c r)) ∧ Below w.heap.size w w' := by
  have htold := l10Told_any va c r w ha
  by_cases h : okR c r
  · rw [missR_ok h]
    rw [decide_eq_true h] at htold
    obtain ⟨m, rfl⟩ : ∃ m : Nat, r = m := ⟨r.toNat, by have := h.2.1; omega⟩
    rw [Int.toNat_natCast]
    have hcall := l10Misses_any va c m 1 w ha h.1 (by have := h.2.1; omega) (by have := h.2.2; omega) (by omega)
    clear ha h
    go_enter Try.func19, Try.ntmps19
    go_wp2_with fail
    refine htold.mono ?_
    rintro e w2 ⟨rfl, rfl⟩
    go_wp2_with fail
    refine hcall.mono ?_
    rintro e w3 ⟨rfl, hb⟩
    go_wp2
    go_ret
    exact ⟨rfl, hb⟩
  · rw [missR_no h]
    rw [decide_eq_false h] at htold
    clear ha h
    go_enter Try.func19, Try.ntmps19
    go_wp2_with fail
    refine htold.mono ?_
    rintro e w2 ⟨rfl, rfl⟩
    go_wp2
    go_ret
    exact ⟨rfl, Below.refl _ _⟩
set_option maxHeartbeats 2000000 in
set_option maxRecDepth 100000 in
theorem specDistinct_any (va : Value) (c : List Int) (w : World) (ha : Rd w va (cellsInt64S c)) :
    Calls Try.prog 21 #[va] w fun e w' => e = .returned (.int .i64 (distT c)) ∧ Below w.heap.size w w' := by
  have hla : (cellsInt64S c).length = c.length := by simp
  obtain ⟨ao, cap, hv, hcap, hx⟩ := ha
  rw [hla] at hv hcap hx
  subst hv
  have HX : Hid (∀ j, j < c.length → ∃ b off, ao = some ⟨b, off, none⟩ ∧ b < w.heap.size ∧ w.cell? ⟨b, off + j, none⟩ = some (.int .i64 (c.getD j 0))) := fun j hj => by
    obtain ⟨b, off, h1, h2, h3⟩ := hx (by intro h; rw [h] at hla; simp at hla; omega)
    exact ⟨b, off, h1, h2, (h3 j hj).trans (ints_get _ c j hj)⟩
  clear hx hla
  by_cases hl : c.length ≤ 60
  rotate_left
  · have hI : (60 : Int) < (c.length : Int) := by omega
    have e : distT c = -1 := by unfold distT; rw [if_neg hl]
    rw [e]
    clear HX e hl
    go_enter Try.func21, Try.ntmps21
    go_wp2
    go_ret
    exact ⟨rfl, Below.refl _ _⟩
  have hI : ¬ (60 : Int) < (c.length : Int) := by omega
  have e : distT c = ((distK c []).length : Int) := by unfold distT; rw [if_pos hl]
  rw [e]
  clear e
  have HR0 : Hid (distK (c.drop 0) [] = distK c []) := by show _ = _; rw [List.drop_zero]
  have HEND : Hid (∀ H R, distK (c.drop c.length) H = R → H = R) := fun H R h => by
    rw [List.drop_length] at h
    exact h
  have HOLD : Hid (∀ i H R, i < c.length → c.getD i 0 ∈ H → distK (c.drop i) H = R → distK (c.drop (i + 1)) H = R) := fun i H R hi hm h => by
    rw [drop_at hi, distK_old hm] at h
    exact h
  have HNEW : Hid (∀ i H R, i < c.length → c.getD i 0 ∉ H → distK (c.drop i) H = R → distK (c.drop (i + 1)) (H ++ [c.getD i 0]) = R) := fun i H R hi hm h => by
    rw [drop_at hi, distK_new hm] at h
    exact h
  generalize distK c [] = R0 at HR0 ⊢
  have hrow0 : (w.alloc (.cells #[] 2)).ownsRow w.heap.size 2 1 (.slice (some ⟨w.heap.size, 0, none⟩) 0 0) ([] : List Int).length (cellsInt64S []) := World.ownsRow_lit (base := w.heap.size) (e := 2) (size := 1) w #[] 0 (Nat.le_refl _) (Nat.zero_le _) rfl
  have hb0 := (Below.refl w.heap.size w).alloc (Nat.le_refl _) (.cells #[] 2)
  go_enter Try.func21, Try.ntmps21
  go_wp2
  go_loopw [3, 4] (fun v5 v6 wr => ∃ (i : Nat) (H : List Int), v6 = .int .i64 (i : Int) ∧ i ≤ c.length ∧ H.length ≤ i ∧ Hid (distK (c.drop i) H = R0) ∧ wr.ownsRow w.heap.size 2 1 v5 H.length (cellsInt64S H) ∧ Below w.heap.size w wr) (fun _ k _ => c.length - (intOf k).toNat)
  case atStart => exact ⟨0, [], rfl, Nat.zero_le _, Nat.le_refl _, HR0, hrow0, hb0⟩
  case round =>
    rename World => wr
    obtain ⟨i, H, rfl, hi, hHl, hM, ho, hb⟩ := hrel
    clear hrow0 hb0 HR0
    have hsb := hb.size
    by_cases hlt : i < c.length
    rotate_left
    · obtain rfl : i = c.length := by omega
      have HE := Lib.hid (HEND.out H R0 hM.out)
      obtain ⟨av, cv, hvv⟩ := owns_slice ho
      subst hvv
      clear ho hM
      go_wp2
      go_ret
      exact ⟨by rw [HE.out]; rfl, hb⟩
    obtain ⟨b, off, rfl, hbl, hc0⟩ := HX.out i hlt
    have c0 := (hb.cell (p := ⟨b, off + i, none⟩) hbl).trans hc0
    have HHI := Lib.hid (fun h => HOLD.out i H R0 hlt h hM.out)
    have HNE := Lib.hid (fun h => HNEW.out i H R0 hlt h hM.out)
    obtain ⟨q, hq⟩ : ∃ q, q = c.getD i 0 := ⟨_, rfl⟩
    rw [← hq] at c0 HHI HNE
    have hhas := l1Has10_any _ H q wr (rd_owns ho) (by omega)
    have hltI : (i : Int) < (c.length : Int) := by omega
    clear hq hc0 hM
    by_cases hm : q ∈ H
    · have hcn : H.contains q = true := by simpa using hm
      rw [hcn] at hhas
      have HM2 := Lib.hid (HHI.out hm)
      have HO := Lib.hid ho
      clear HHI HNE hm hcn ho
      go_wp2_with fail
      refine hhas.mono ?_
      rintro e w2 ⟨rfl, rfl⟩
      clear hhas
      go_wp2
      go_roundw
      case rel => exact ⟨i + 1, H, by go_num, by omega, by omega, HM2, HO.out, hb⟩
      case measure => simp [intOf]; omega
    · have hcn : H.contains q = false := by
        cases e : H.contains q with
        | false => rfl
        | true => exact absurd (by simpa using e) hm
      rw [hcn] at hhas
      have HM2 := Lib.hid (HNE.out hm)
      clear HHI HNE hm hcn
      go_wp2_with fail
      refine hhas.mono ?_
      rintro e w2 ⟨rfl, rfl⟩
      clear hhas
      have hra := (World.ownsRow_lit (base := w2.heap.size) (e := 2) (size := 1) w2 #[.int .i64 q] 1 (Nat.le_refl _) (by unfold maxLen; omega) rfl : (w2.alloc (.cells #[.int .i64 q] 2)).ownsRow w2.heap.size 2 1 (.slice (some ⟨w2.heap.size, 0, none⟩) 1 1) 1 (cellsInt64S [q]))
      have hoa := ho.alloc (.cells #[.int .i64 q] 2)
      have hba := hb.alloc hsb (.cells #[.int .i64 q] 2)
      have hrq := rd_owns hra
      clear ho hra hb
      go_wp2_with (at_builtin; refine own_step rfl _ _ rfl w.heap.size _ (.slice (some ⟨w2.heap.size, 0, none⟩) 1 1) (H) [q] rfl rfl hoa hrq (by simp; omega) (by rw [World.size_alloc]; omega) ?_)
      intro v20 w20 ho20 hg20 hi20
      have HB20 := Lib.hid (hba.grown hg20 (by rw [World.size_alloc]; omega) (fun k hk => (hoa.lt k hk).1))
      have HO20 := Lib.hid ho20
      clear ho20 hg20 hi20 hoa hba hrq
      go_wp2
      go_roundw
      case rel => exact ⟨i + 1, H ++ [q], by go_num, by omega, by simp; omega, HM2, by simpa using HO20.out, HB20.out⟩
      case measure => simp [intOf]; omega
end Go.Proofs.Ytncmeocjiinmfan
