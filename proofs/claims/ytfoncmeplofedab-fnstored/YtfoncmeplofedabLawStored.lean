/- FnStored: what is put is got and all else as it was, what has another one's digest is not taken, and what is dropped is missing. For every code, without a condition. (Its walk is written by storedgen.py.) -/
import Derived.Test.YtfoncmeplofedabDrawsB
import Derived.Test.YtfoncmeplofedabPutI
import Derived.Test.YtfoncmeplofedabDropI
import Derived.Test.YtfoncmeplofedabBlobE
import Derived.Test.YtfoncmeplofedabLikeI
import Derived.Test.YtfoncmeplofedabArgs
namespace Go.Proofs.Ytfoncmeplofedab.fnStored
open Go.ChangeShapes Go.WideShapes Go.ChangeAt Go.RowKit
set_option linter.unusedVariables false

theorem putT_code {l : List Bl} {s : ByteArray} (h : storeB l = true) : (putT l s).2.2 = 0 ∨ (putT l s).2.2 = 1 ∨ (putT l s).2.2 = 2 ∨ (putT l s).2.2 = 3 ∨ (putT l s).2.2 = 4 := by
  unfold putT
  rw [if_pos h]
  by_cases h2 : 2000 < s.size
  · rw [if_pos h2]; simp
  · rw [if_neg h2]
    cases findB l (digest s) with
    | some p =>
      simp only
      by_cases hp : p.2 = s
      · rw [if_pos hp]; simp
      · rw [if_neg hp]; simp
    | none =>
      simp only
      by_cases hn : l.length = 300
      · rw [if_pos hn]; simp
      · rw [if_neg hn]; simp
theorem put_facts {l : List Bl} {s : ByteArray} :
    (storeB l = false → (putT l s).1 = [] ∧ (putT l s).2.2 = 4) ∧
    (storeB l = true → (((putT l s).2.2 = 2 ∨ (putT l s).2.2 = 3 ∨ (putT l s).2.2 = 4) ∧ l = (putT l s).1 ∧ (putT l s).2.1 = 0) ∨
      (((putT l s).2.2 = 0 ∨ (putT l s).2.2 = 1) ∧ storeB (putT l s).1 = true ∧ (putT l s).2.1 = digest s ∧ getT (putT l s).1 (putT l s).2.1 = some s ∧ (∀ p ∈ l, getT (putT l s).1 p.1 = some p.2) ∧ ((putT l s).2.2 = 1 → (putT l s).1 = l) ∧ ((putT l s).2.2 = 0 → (putT l s).1.length = l.length + 1))) := by
  refine ⟨fun h => ?_, fun h => ?_⟩
  · unfold putT
    rw [h]
    exact ⟨rfl, rfl⟩
  · rcases putT_code (s := s) h with k | k | k | k | k
    · obtain ⟨h1, h2, h3, h4, h5, h6⟩ := put_ok (s := s) h (Or.inl k)
      exact Or.inr ⟨Or.inl k, h1, h2, by rw [h2]; exact h3, h4, h5, h6⟩
    · obtain ⟨h1, h2, h3, h4, h5, h6⟩ := put_ok (s := s) h (Or.inr k)
      exact Or.inr ⟨Or.inr k, h1, h2, by rw [h2]; exact h3, h4, h5, h6⟩
    all_goals
      obtain ⟨h1, h2⟩ := put_not (s := s) h ⟨by omega, by omega⟩
      exact Or.inl ⟨by omega, h1.symm, h2⟩
theorem get_facts (a : List Bl) (n : Int) (hs : ∀ p ∈ a, p.2.size ≤ 1048576) : ∃ (T : ByteArray) (B : Bool), getV (getT a n) = .tuple #[.string T, .bool B] ∧ T.size ≤ 1048576 ∧ (B = true → digest T = n) := by
  cases h : getT a n with
  | none => exact ⟨⟨#[]⟩, false, rfl, by decide, fun h => by cases h⟩
  | some t =>
    refine ⟨t, true, rfl, ?_, fun _ => getT_digest h⟩
    unfold getT at h
    split at h
    · obtain ⟨p, hp, rfl⟩ := Option.map_eq_some_iff.1 h
      exact hs p (findB_some hp).1
    · cases h
theorem dropT_sub {b : List Bl} {g : List Int} {p : Bl} (h : p ∈ dropT b g) : p ∈ b := by
  unfold dropT at h
  split at h
  · exact (List.mem_filter.1 h).1
  · cases h
theorem dropT_len (b : List Bl) (g : List Int) : (dropT b g).length ≤ b.length := by
  unfold dropT
  split
  · exact List.length_filter_le _ _
  · exact Nat.zero_le _
theorem missF_sub {l : List Bl} : ∀ {ds acc : List Int} {d : Int}, d ∈ missF l ds acc → d ∈ ds ∨ d ∈ acc
  | [], acc, d, h => Or.inr h
  | x :: r, acc, d, h => by
    unfold missF at h
    split at h
    · rcases missF_sub h with h1 | h1
      · exact Or.inl (by simp [h1])
      · rcases List.mem_append.1 h1 with h2 | h2
        · exact Or.inr h2
        · rw [List.mem_singleton.1 h2]; exact Or.inl (by simp)
    · rcases missF_sub h with h1 | h1
      · exact Or.inl (by simp [h1])
      · exact Or.inr h1
theorem missT_sub {b : List Bl} {g : List Int} {d : Int} (h : d ∈ missT b g) : d ∈ g := by
  unfold missT at h
  split at h
  · rcases missF_sub h with h1 | h1
    · exact h1
    · cases h1
  · cases h
theorem missF_len {l : List Bl} : ∀ (ds acc : List Int), (missF l ds acc).length ≤ ds.length + acc.length
  | [], acc => by simp [missF]
  | x :: r, acc => by
    unfold missF
    split
    · have := missF_len (l := l) r (acc ++ [x]); simp at this ⊢; omega
    · have := missF_len (l := l) r acc; simp; omega
theorem missT_len (b : List Bl) (g : List Int) : (missT b g).length ≤ g.length := by
  unfold missT
  split
  · have := missF_len (l := b) g []; simpa using this
  · exact Nat.zero_le _
theorem drop_facts (b : List Bl) (g : List Int) : storeB b = true → storeB (dropT b g) = true ∧ missT (dropT b g) (missT b g) = missT b g ∧ ∀ d ∈ g, getT (dropT b g) d = none :=
  fun h => ⟨drop_sto h, miss_again h, fun d hd => drop_none h hd⟩
theorem row_cells {w : World} {au : Option Addr} {n cu : Nat} {l : List Bl} (h : RdB w (.slice au n cu) l) (hn : n = l.length) {j : Nat} (hj : j < n) : ∃ b off, au = some ⟨b, off, none⟩ ∧ b < w.heap.size ∧ w.cell? ⟨b, off + j * 2, none⟩ = some (.int .i64 (l.getD j bl0).1) ∧ w.cell? ⟨b, off + j * 2 + 1, none⟩ = some (.string (l.getD j bl0).2) := by
  obtain ⟨ao, cap, hv, hcap, hx⟩ := h
  simp only [Value.slice.injEq] at hv
  obtain ⟨rfl, _, rfl⟩ := hv
  obtain ⟨b, off, h1, h2, h3⟩ := hx (fun h0 => by rw [hn, h0] at hj; exact absurd hj (Nat.not_lt_zero _))
  exact ⟨b, off, h1, h2, h3 j (by omega)⟩
theorem ints_cells {w : World} {au : Option Addr} {n cu : Nat} {g : List Int} (h : Rd w (.slice au n cu) (cellsInt64S g)) (hn : n = g.length) {j : Nat} (hj : j < n) : ∃ b off, au = some ⟨b, off, none⟩ ∧ w.cell? ⟨b, off + j, none⟩ = some (.int .i64 (g.getD j 0)) := by
  have hla : (cellsInt64S g).length = g.length := by simp
  obtain ⟨ao, cap, hv, hcap, hx⟩ := h
  rw [hla] at hv hcap hx
  simp only [Value.slice.injEq] at hv
  obtain ⟨rfl, _, rfl⟩ := hv
  obtain ⟨b, off, h1, h2, h3⟩ := hx (fun h0 => by
    have := congrArg List.length h0
    rw [hla] at this
    simp at this
    rw [hn, this] at hj
    exact absurd hj (Nat.not_lt_zero _))
  exact ⟨b, off, h1, (h3 j (by omega)).trans (ints_get _ g j (by omega))⟩
set_option maxHeartbeats 6000000 in
set_option maxRecDepth 100000 in
theorem walk (va : Value) (bs : List Int) (w : World) (ha : Rd w va (cellsByteS bs)) (hz : Bytes bs) (hlen : bs.length ≤ 9223372036854775807) :
    Calls Try.prog 7 #[va] w fun e w' => e = .returned (.bool true) ∧ Below w.heap.size w w' := by
  by_cases hbig : 4096 < (bs.length : Int)
  · obtain ⟨ao, cap, rfl, _, _⟩ := ha
    have hla : (cellsByteS bs).length = bs.length := by simp
    rw [hla]
    go_enter Try.func7, Try.ntmps7
    go_wp2
    go_ret
    exact ⟨rfl, Below.refl _ _⟩
  · have hl : bs.length ≤ 4096 := by omega
    have hbg : Calls Try.prog 9 #[va] w fun e w' => e = .returned (.bool false) ∧ w' = w := by
      obtain ⟨ao, cap, rfl, _, _⟩ := ha
      have hla : (cellsByteS bs).length = bs.length := by simp
      rw [hla]
      go_enter Try.func9, Try.ntmps9
      go_wp2
      go_ret
      exact ⟨by simp, rfl⟩
    go_enter Try.func7, Try.ntmps7
    go_wp2_with fail
    refine hbg.mono ?_
    rintro e w0 ⟨rfl, rfl⟩
    have hC0 := ha
    clear ha hbg hbig hlen
    have hB0 : Below w0.heap.size w0 w0 := Below.refl _ _
    go_wp2_with fail
    refine (drawPut_any va bs _ hC0 hl hz).mono ?_
    rintro e w1 ⟨u1, l, s, rfl, hl8, hsml, ⟨hss, hfar⟩, hL1, hb1⟩
    have hB1 := hB0.trans (hb1.mono hB0.size)
    have hC1 := rd_below hC0 hb1
    clear hb1 hB0 hC0
    have hlL : l.length ≤ 1048576 := by omega
    have hl8I : l.length ≤ 8 := hl8
    have HSL : Hid (∀ p ∈ l, p.2.size ≤ 1048576) := fun p hp => by have := hsml p hp; omega
    have HPC := Lib.hid (put_facts (l := l) (s := s))
    have hpi : putI l s = putT l s := putI_same (fun h h2 => ⟨hfar h h2, by omega⟩)
    have HCP := Lib.hid (fun W h => implPut_any u1 l s W h hlL HSL.out (by omega))
    have HCS := Lib.hid (fun W h => specPut_any u1 l s W h hlL HSL.out (by omega))
    have hxl := putT_len l s
    have hxs := put_small (B := 2001) (fun p hp => by have := hsml p hp; omega) hss
    rw [hpi] at HCP
    obtain ⟨P, hP⟩ : ∃ P, P = putT l s := ⟨_, rfl⟩
    rw [← hP] at HPC HCP HCS hxl hxs
    obtain ⟨X, D, K⟩ := P
    simp only at HPC HCP HCS hxl hxs
    clear hP hpi hfar hsml
    have hlX : X.length ≤ 1048576 := by omega
    have HSX : Hid (∀ p ∈ X, p.2.size ≤ 1048576) := fun p hp => by have := hxs p hp; omega
    clear hxs
    have hqD : (D != D) = false := by simp
    have hqK : (K != K) = false := by simp
    obtain ⟨au, cu, hu1⟩ := rdB_shape hL1
    obtain ⟨n1, hn1⟩ : ∃ n1, n1 = l.length := ⟨_, rfl⟩
    rw [← hn1] at hu1
    have HN1 : Hid (n1 = l.length) := hn1
    have hn18 : n1 ≤ 8 := by omega
    clear hn1
    subst hu1
    go_wp2_with fail
    refine (HCP.out _ hL1).mono ?_
    rintro e w2 ⟨vx, rfl, ho2, hb2⟩
    have hB2 := hB1.trans (hb2.mono hB1.size)
    have hC2 := rd_below hC1 hb2
    have hL2 := rdB_below hL1 hb2
    have hX2 := rdB_owns ho2
    clear ho2
    clear hb2 hB1 hC1 hL1
    obtain ⟨ax, cx, hvx⟩ := rdB_shape hX2
    obtain ⟨nx, hnx⟩ : ∃ nx, nx = X.length := ⟨_, rfl⟩
    rw [← hnx] at hvx
    have HNX : Hid (nx = X.length) := hnx
    have hnx9 : nx ≤ 9 := by omega
    clear hnx hxl
    subst hvx
    go_wp2_with fail
    refine (drawGet_any va bs _ hC2 hl hz).mono ?_
    rintro e w3 ⟨u2, a, n, rfl, ha8, hsma, hA3, hb3⟩
    have hB3 := hB2.trans (hb3.mono hB2.size)
    have hC3 := rd_below hC2 hb3
    have hL3 := rdB_below hL2 hb3
    have hX3 := rdB_below hX2 hb3
    clear hb3 hB2 hC2 hL2 hX2
    have hlA : a.length ≤ 1048576 := by omega
    have HSA : Hid (∀ p ∈ a, p.2.size ≤ 1048576) := fun p hp => by have := hsma p hp; omega
    obtain ⟨T, B, hG, hT1, hT2⟩ := get_facts a n HSA.out
    have HCG := Lib.hid (fun W h => implGet_any u2 a n W h hlA HSA.out)
    have HCH := Lib.hid (fun W h => specGet_any u2 a n W h hlA HSA.out)
    rw [hG] at HCG HCH
    have HT2 := Lib.hid hT2
    clear hG hT2 hsma ha8
    have hqB : (B != B) = false := by simp
    go_wp2_with fail
    refine (HCG.out _ hA3).mono ?_
    rintro e w4 ⟨rfl, hb4⟩
    have hB4 := hB3.trans (hb4.mono hB3.size)
    have hC4 := rd_below hC3 hb4
    have hL4 := rdB_below hL3 hb4
    have hX4 := rdB_below hX3 hb4
    have hA4 := rdB_below hA3 hb4
    clear hb4 hB3 hC3 hL3 hX3 hA3
    go_wp2_with fail
    refine (drawDrop_any va bs _ hC4 hl hz).mono ?_
    rintro e w5 ⟨u3, b, vg, g, rfl, hb8, hsmb, hBb5, hg5, hg64, hGg5, hb5⟩
    have hB5 := hB4.trans (hb5.mono hB4.size)
    have hC5 := rd_below hC4 hb5
    have hL5 := rdB_below hL4 hb5
    have hX5 := rdB_below hX4 hb5
    have hA5 := rdB_below hA4 hb5
    clear hb5 hB4 hC4 hL4 hX4 hA4
    clear hC5
    have hlB : b.length ≤ 1048576 := by omega
    have HSB : Hid (∀ p ∈ b, p.2.size ≤ 1048576) := fun p hp => by have := hsmb p hp; omega
    have hlG : g.length ≤ 1048576 := by omega
    have HG64 := Lib.hid hg64
    have HDF := Lib.hid (drop_facts b g)
    have hyl := dropT_len b g
    have hzl := missT_len b g
    have HCD := Lib.hid (fun W h k => implDrop_any u3 vg b g W h k hlB HSB.out hlG HG64.out)
    have HCE := Lib.hid (fun W h k => specDrop_any u3 vg b g W h k hlB HSB.out hlG)
    have HCM := Lib.hid (fun W h k => implMissing_any u3 vg b g W h k hlB HSB.out hlG HG64.out)
    have HCN := Lib.hid (fun W h k => specMissing_any u3 vg b g W h k hlB HSB.out hlG)
    have HSY0 := Lib.hid (fun p (hp : p ∈ dropT b g) => HSB.out p (dropT_sub hp))
    have HZ64 := Lib.hid (fun d (hd : d ∈ missT b g) => HG64.out d (missT_sub hd))
    obtain ⟨Y, hY⟩ : ∃ Y, Y = dropT b g := ⟨_, rfl⟩
    obtain ⟨Z, hZ⟩ : ∃ Z, Z = missT b g := ⟨_, rfl⟩
    rw [← hY] at HDF hyl HCD HCE HSY0
    rw [← hZ] at HDF hzl HCM HCN HZ64
    have HSY : Hid (∀ p ∈ Y, p.2.size ≤ 1048576) := HSY0.out
    have hlY : Y.length ≤ 1048576 := by omega
    have hlZ : Z.length ≤ 1048576 := by omega
    clear hY hZ hyl hzl hsmb hb8 hg64 HSY0
    obtain ⟨ag, cg, hvg⟩ := rd_shape hGg5
    rw [List.length_map] at hvg
    obtain ⟨ng, hng⟩ : ∃ ng, ng = g.length := ⟨_, rfl⟩
    rw [← hng] at hvg
    have HNG : Hid (ng = g.length) := hng
    have hng5 : ng ≤ 5 := by omega
    clear hng hg5
    subst hvg
    go_wp2_with fail
    refine (HCD.out _ hBb5 hGg5).mono ?_
    rintro e w6 ⟨vy, rfl, ho6, hb6⟩
    have hB6 := hB5.trans (hb6.mono hB5.size)
    have hL6 := rdB_below hL5 hb6
    have hX6 := rdB_below hX5 hb6
    have hA6 := rdB_below hA5 hb6
    have hBb6 := rdB_below hBb5 hb6
    have hGg6 := rd_below hGg5 hb6
    have hY6 := rdB_owns ho6
    clear ho6
    clear hb6 hB5 hL5 hX5 hA5 hBb5 hGg5
    go_wp2_with fail
    refine (HCM.out _ hBb6 hGg6).mono ?_
    rintro e w7 ⟨vz, rfl, ho7, hb7⟩
    have hB7 := hB6.trans (hb7.mono hB6.size)
    have hL7 := rdB_below hL6 hb7
    have hX7 := rdB_below hX6 hb7
    have hA7 := rdB_below hA6 hb7
    have hBb7 := rdB_below hBb6 hb7
    have hGg7 := rd_below hGg6 hb7
    have hY7 := rdB_below hY6 hb7
    have hZ7 := rd_owns ho7
    clear ho7
    clear hb7 hB6 hL6 hX6 hA6 hBb6 hGg6 hY6
    obtain ⟨az, cz, hvz⟩ := rd_shape hZ7
    rw [List.length_map] at hvz
    obtain ⟨nz, hnz⟩ : ∃ nz, nz = Z.length := ⟨_, rfl⟩
    rw [← hnz] at hvz
    have HNZ : Hid (nz = Z.length) := hnz
    clear hnz
    subst hvz
    have hqZ : ((nz : Int) != (nz : Int)) = false := by simp
    go_wp2_with fail
    refine (HCS.out _ hL7).mono ?_
    rintro e w8 ⟨vp, rfl, ho8, hb8⟩
    have hB8 := hB7.trans (hb8.mono hB7.size)
    have hL8 := rdB_below hL7 hb8
    have hX8 := rdB_below hX7 hb8
    have hA8 := rdB_below hA7 hb8
    have hBb8 := rdB_below hBb7 hb8
    have hGg8 := rd_below hGg7 hb8
    have hY8 := rdB_below hY7 hb8
    have hZ8 := rd_below hZ7 hb8
    have hPp8 := rdB_owns ho8
    clear ho8
    clear hb8 hB7 hL7 hX7 hA7 hBb7 hGg7 hY7 hZ7
    go_wp2_with fail
    refine (likeBlobs_any _ vp X X _ hX8 hPp8 hlX hlX).mono ?_
    rintro e w9 ⟨rfl, hb9⟩
    have hB9 := hB8.trans (hb9.mono hB8.size)
    have hL9 := rdB_below hL8 hb9
    have hX9 := rdB_below hX8 hb9
    have hA9 := rdB_below hA8 hb9
    have hBb9 := rdB_below hBb8 hb9
    have hGg9 := rd_below hGg8 hb9
    have hY9 := rdB_below hY8 hb9
    have hZ9 := rd_below hZ8 hb9
    have hPp9 := rdB_below hPp8 hb9
    rw [decide_eq_true rfl]
    clear hb9 hB8 hL8 hX8 hA8 hBb8 hGg8 hY8 hZ8 hPp8
    clear hPp9
    have HOI := Lib.hid (fun v W h => implStoreOk_any v l W h hlL HSL.out)
    have HOS := Lib.hid (fun v W h => specStoreOk_any v l W h hlL HSL.out)
    obtain ⟨SL, hSL⟩ : ∃ SL, SL = storeB l := ⟨_, rfl⟩
    rw [← hSL] at HOI HOS HPC
    clear hSL
    have hqS : (SL != SL) = false := by simp
    go_wp2_with fail
    refine (HOI.out _ _ hL9).mono ?_
    rintro e w10 ⟨rfl, hb10⟩
    have hB10 := hB9.trans (hb10.mono hB9.size)
    have hL10 := rdB_below hL9 hb10
    have hX10 := rdB_below hX9 hb10
    have hA10 := rdB_below hA9 hb10
    have hBb10 := rdB_below hBb9 hb10
    have hGg10 := rd_below hGg9 hb10
    have hY10 := rdB_below hY9 hb10
    have hZ10 := rd_below hZ9 hb10
    clear hb10 hB9 hL9 hX9 hA9 hBb9 hGg9 hY9 hZ9
    go_wp2_with fail
    refine (HOS.out _ _ hL10).mono ?_
    rintro e w11 ⟨rfl, hb11⟩
    have hB11 := hB10.trans (hb11.mono hB10.size)
    have hL11 := rdB_below hL10 hb11
    have hX11 := rdB_below hX10 hb11
    have hA11 := rdB_below hA10 hb11
    have hBb11 := rdB_below hBb10 hb11
    have hGg11 := rd_below hGg10 hb11
    have hY11 := rdB_below hY10 hb11
    have hZ11 := rd_below hZ10 hb11
    clear hb11 hB10 hL10 hX10 hA10 hBb10 hGg10 hY10 hZ10
    go_wp2_with fail
    refine (HCE.out _ hBb11 hGg11).mono ?_
    rintro e w12 ⟨vd, rfl, ho12, hb12⟩
    have hB12 := hB11.trans (hb12.mono hB11.size)
    have hL12 := rdB_below hL11 hb12
    have hX12 := rdB_below hX11 hb12
    have hA12 := rdB_below hA11 hb12
    have hBb12 := rdB_below hBb11 hb12
    have hGg12 := rd_below hGg11 hb12
    have hY12 := rdB_below hY11 hb12
    have hZ12 := rd_below hZ11 hb12
    have hDd12 := rdB_owns ho12
    clear ho12
    clear hb12 hB11 hL11 hX11 hA11 hBb11 hGg11 hY11 hZ11
    go_wp2_with fail
    refine (likeBlobs_any vy vd Y Y _ hY12 hDd12 hlY hlY).mono ?_
    rintro e w13 ⟨rfl, hb13⟩
    have hB13 := hB12.trans (hb13.mono hB12.size)
    have hL13 := rdB_below hL12 hb13
    have hX13 := rdB_below hX12 hb13
    have hA13 := rdB_below hA12 hb13
    have hBb13 := rdB_below hBb12 hb13
    have hGg13 := rd_below hGg12 hb13
    have hY13 := rdB_below hY12 hb13
    have hZ13 := rd_below hZ12 hb13
    have hDd13 := rdB_below hDd12 hb13
    rw [decide_eq_true rfl]
    clear hb13 hB12 hL12 hX12 hA12 hBb12 hGg12 hY12 hZ12 hDd12
    clear hDd13
    go_wp2_with fail
    refine (HCN.out _ hBb13 hGg13).mono ?_
    rintro e w14 ⟨vm, rfl, ho14, hb14⟩
    have hB14 := hB13.trans (hb14.mono hB13.size)
    have hL14 := rdB_below hL13 hb14
    have hX14 := rdB_below hX13 hb14
    have hA14 := rdB_below hA13 hb14
    have hBb14 := rdB_below hBb13 hb14
    have hGg14 := rd_below hGg13 hb14
    have hY14 := rdB_below hY13 hb14
    have hZ14 := rd_below hZ13 hb14
    have hMm14 := rd_owns ho14
    clear ho14
    clear hb14 hB13 hL13 hX13 hA13 hBb13 hGg13 hY13 hZ13
    go_wp2_with fail
    refine (likeInts_any _ vm Z Z _ hZ14 hMm14 (by omega) (by omega)).mono ?_
    rintro e w15 ⟨rfl, hb15⟩
    have hB15 := hB14.trans (hb15.mono hB14.size)
    have hL15 := rdB_below hL14 hb15
    have hX15 := rdB_below hX14 hb15
    have hA15 := rdB_below hA14 hb15
    have hBb15 := rdB_below hBb14 hb15
    have hGg15 := rd_below hGg14 hb15
    have hY15 := rdB_below hY14 hb15
    have hZ15 := rd_below hZ14 hb15
    have hMm15 := rd_below hMm14 hb15
    rw [decide_eq_true rfl]
    clear hb15 hB14 hL14 hX14 hA14 hBb14 hGg14 hY14 hZ14 hMm14
    clear hMm15
    go_wp2_with fail
    refine (HCH.out _ hA15).mono ?_
    rintro e w16 ⟨rfl, hb16⟩
    have hB16 := hB15.trans (hb16.mono hB15.size)
    have hL16 := rdB_below hL15 hb16
    have hX16 := rdB_below hX15 hb16
    have hA16 := rdB_below hA15 hb16
    have hBb16 := rdB_below hBb15 hb16
    have hGg16 := rd_below hGg15 hb16
    have hY16 := rdB_below hY15 hb16
    have hZ16 := rd_below hZ15 hb16
    clear hb16 hB15 hL15 hX15 hA15 hBb15 hGg15 hY15 hZ15
    clear hA16
    have HOB := Lib.hid (fun W h => specStoreOk_any u3 b W h hlB HSB.out)
    obtain ⟨SB, hSB⟩ : ∃ SB, SB = storeB b := ⟨_, rfl⟩
    rw [← hSB] at HOB HDF
    clear hSB HCP HCS HCG HCH HCD HCE HCM HCN hlA HSA
    cases B with
    | true =>
      have hdt := implDigest_any T w16 (by omega)
      rw [HT2.out rfl] at hdt
      have hqn : (n != n) = false := by simp
      go_wp2_with fail
      refine hdt.mono ?_
      rintro e w17 ⟨rfl, rfl⟩
      clear hdt
      have hL17 := hL16
      have hX17 := hX16
      have hBb17 := hBb16
      have hGg17 := hGg16
      have hY17 := hY16
      have hZ17 := hZ16
      have hB17 := hB16
      clear hL16 hX16 hBb16 hGg16 hY16 hZ16 hB16
      go_wp2_with fail
      refine (HOB.out _ hBb17).mono ?_
      rintro e w18 ⟨rfl, hb18⟩
      have hB18 := hB17.trans (hb18.mono hB17.size)
      have hL18 := rdB_below hL17 hb18
      have hX18 := rdB_below hX17 hb18
      have hBb18 := rdB_below hBb17 hb18
      have hGg18 := rd_below hGg17 hb18
      have hY18 := rdB_below hY17 hb18
      have hZ18 := rd_below hZ17 hb18
      clear hb18 hB17 hL17 hX17 hBb17 hGg17 hY17 hZ17
      clear hBb18
      cases SB with
      | false =>
        clear hGg18
        clear hY18
        clear hZ18
        go_wp2_with fail
        refine (HOS.out _ _ hL18).mono ?_
        rintro e w19 ⟨rfl, hb19⟩
        have hB19 := hB18.trans (hb19.mono hB18.size)
        have hL19 := rdB_below hL18 hb19
        have hX19 := rdB_below hX18 hb19
        clear hb19 hB18 hL18 hX18
        cases SL with
        | false =>
          obtain ⟨hx0, hk4⟩ := HPC.out.1 rfl
          have hnx0 : nx = 0 := by rw [HNX.out, hx0]; rfl
          subst hk4
          subst hnx0
          go_wp2
          go_ret
          exact ⟨rfl, hB19⟩
        | true =>
          rcases HPC.out.2 rfl with ⟨hk, hXl, hD0⟩ | ⟨hk, hXs, hDs, hgd, hgl, hk1, hk0⟩
          · subst hXl
            subst hD0
            rcases hk with rfl | rfl | rfl
            · go_wp2_with fail
              refine (likeBlobs_any _ _ _ _ w19 hX19 hL19 hlX hlX).mono ?_
              rintro e w99 ⟨rfl, hb99⟩
              rw [decide_eq_true rfl]
              have hB99 := hB19.trans (hb99.mono hB19.size)
              clear hb99
              go_wp2
              go_ret
              exact ⟨rfl, hB99⟩
            · go_wp2_with fail
              refine (likeBlobs_any _ _ _ _ w19 hX19 hL19 hlX hlX).mono ?_
              rintro e w99 ⟨rfl, hb99⟩
              rw [decide_eq_true rfl]
              have hB99 := hB19.trans (hb99.mono hB19.size)
              clear hb99
              go_wp2
              go_ret
              exact ⟨rfl, hB99⟩
            · go_wp2_with fail
              refine (likeBlobs_any _ _ _ _ w19 hX19 hL19 hlX hlX).mono ?_
              rintro e w99 ⟨rfl, hb99⟩
              rw [decide_eq_true rfl]
              have hB99 := hB19.trans (hb99.mono hB19.size)
              clear hb99
              go_wp2
              go_ret
              exact ⟨rfl, hB99⟩
          · have HGL := Lib.hid hgl
            have HDS := Lib.hid hDs
            have HK1 := Lib.hid hk1
            have HK0 := Lib.hid hk0
            have HXS := Lib.hid hXs
            clear hDs hk1 hk0 hXs
            have HCX := Lib.hid (fun v W d h => implGet_any v X d W h hlX HSX.out)
            have hgd2 := HCX.out _ w19 D hX19
            rw [hgd] at hgd2
            have hgd3 : getV (some s) = .tuple #[.string s, .bool true] := rfl
            rw [hgd3] at hgd2
            clear hgd3 hgl hgd
            rcases hk with rfl | rfl
            · go_wp2_with fail
              refine (hgd2).mono ?_
              rintro e w20 ⟨rfl, hb20⟩
              have hB20 := hB19.trans (hb20.mono hB19.size)
              have hL20 := rdB_below hL19 hb20
              have hX20 := rdB_below hX19 hb20
              clear hb20 hB19 hL19 hX19
              have hdg := implDigest_any s w20 (by omega)
              rw [← HDS.out] at hdg
              go_wp2_with fail
              refine (hdg).mono ?_
              rintro e wq20 ⟨rfl, rfl⟩
              clear hdg
              have hok := implStoreOk_any _ X wq20 hX20 hlX HSX.out
              rw [HXS.out] at hok
              go_wp2_with fail
              refine hok.mono ?_
              rintro e w21 ⟨rfl, hb21⟩
              have hB21 := hB20.trans (hb21.mono hB20.size)
              have hL21 := rdB_below hL20 hb21
              have hX21 := rdB_below hX20 hb21
              clear hb21 hB20 hL20 hX20 hok
              have HL9 := Lib.hid hL21
              have HX9 := Lib.hid hX21
              have HB9 := Lib.hid hB21
              clear hL21 hX21 hB21
              go_wp2
              go_loopw [26] (fun i wr => ∃ j : Nat, j ≤ n1 ∧ i = .int .i64 j ∧ Hid (Below w21.heap.size w21 wr)) (fun i _ => n1 - (intOf i).toNat)
              case atStart => exact ⟨0, Nat.zero_le _, rfl, Below.refl _ _⟩
              case round =>
                rename World => wr
                obtain ⟨j, hj, rfl, hbr⟩ := hrel
                have hLr := rdB_below HL9.out hbr.out
                have hXr := rdB_below HX9.out hbr.out
                by_cases hltj : j < n1
                · have hjl : j < l.length := by have := HN1.out; omega
                  obtain ⟨b1, off1, hau, hlt1, hc⟩ := row_cells hLr HN1.out hltj
                  subst hau
                  obtain ⟨c0, c1⟩ := hc
                  have hmem : l.getD j bl0 ∈ l := by rw [getD_at hjl]; exact List.getElem_mem hjl
                  have hgj := HGL.out _ hmem
                  obtain ⟨y, hy⟩ : ∃ y, y = l.getD j bl0 := ⟨_, rfl⟩
                  rw [← hy] at c0 c1 hgj
                  obtain ⟨y1, y2⟩ := y
                  simp only at c0 c1 hgj
                  have hcall := HCX.out _ wr y1 hXr
                  rw [hgj] at hcall
                  have hgd3 : getV (some y2) = .tuple #[.string y2, .bool true] := rfl
                  rw [hgd3] at hcall
                  clear hgd3 hy hgj hmem hjl
                  go_wp2_with fail
                  refine hcall.mono ?_
                  rintro e w88 ⟨rfl, hb88⟩
                  have d1 := (hb88.cell (p := ⟨b1, off1 + j * 2 + 1, none⟩) hlt1).trans c1
                  have HB8 := Lib.hid (hbr.out.trans (hb88.mono hbr.out.size))
                  clear hb88 hcall c0 c1 hLr hXr
                  go_wp2
                  go_roundw
                  case rel => exact ⟨j + 1, by omega, by go_num, HB8⟩
                  case measure => simp [intOf]; omega
                · have hnn : (nx : Int) = (n1 : Int) + 1 := by have h1 := HK0.out (by first | exact rfl | trivial); have h2 := HN1.out; have h3 := HNX.out; omega
                  have hltJ : ¬ (j : Int) < (n1 : Int) := by omega
                  have hB := HB9.out.trans (hbr.out.mono HB9.out.size)
                  clear hLr hXr
                  go_wp2
                  go_ret
                  exact ⟨by first | rfl | exact ret_boolS (by simp [hnn]), hB⟩
            · go_wp2_with fail
              refine (hgd2).mono ?_
              rintro e w20 ⟨rfl, hb20⟩
              have hB20 := hB19.trans (hb20.mono hB19.size)
              have hL20 := rdB_below hL19 hb20
              have hX20 := rdB_below hX19 hb20
              clear hb20 hB19 hL19 hX19
              have hdg := implDigest_any s w20 (by omega)
              rw [← HDS.out] at hdg
              go_wp2_with fail
              refine (hdg).mono ?_
              rintro e wq20 ⟨rfl, rfl⟩
              clear hdg
              have hok := implStoreOk_any _ X wq20 hX20 hlX HSX.out
              rw [HXS.out] at hok
              go_wp2_with fail
              refine hok.mono ?_
              rintro e w21 ⟨rfl, hb21⟩
              have hB21 := hB20.trans (hb21.mono hB20.size)
              have hL21 := rdB_below hL20 hb21
              have hX21 := rdB_below hX20 hb21
              clear hb21 hB20 hL20 hX20 hok
              have HL9 := Lib.hid hL21
              have HX9 := Lib.hid hX21
              have HB9 := Lib.hid hB21
              clear hL21 hX21 hB21
              go_wp2
              go_loopw [26] (fun i wr => ∃ j : Nat, j ≤ n1 ∧ i = .int .i64 j ∧ Hid (Below w21.heap.size w21 wr)) (fun i _ => n1 - (intOf i).toNat)
              case atStart => exact ⟨0, Nat.zero_le _, rfl, Below.refl _ _⟩
              case round =>
                rename World => wr
                obtain ⟨j, hj, rfl, hbr⟩ := hrel
                have hLr := rdB_below HL9.out hbr.out
                have hXr := rdB_below HX9.out hbr.out
                by_cases hltj : j < n1
                · have hjl : j < l.length := by have := HN1.out; omega
                  obtain ⟨b1, off1, hau, hlt1, hc⟩ := row_cells hLr HN1.out hltj
                  subst hau
                  obtain ⟨c0, c1⟩ := hc
                  have hmem : l.getD j bl0 ∈ l := by rw [getD_at hjl]; exact List.getElem_mem hjl
                  have hgj := HGL.out _ hmem
                  obtain ⟨y, hy⟩ : ∃ y, y = l.getD j bl0 := ⟨_, rfl⟩
                  rw [← hy] at c0 c1 hgj
                  obtain ⟨y1, y2⟩ := y
                  simp only at c0 c1 hgj
                  have hcall := HCX.out _ wr y1 hXr
                  rw [hgj] at hcall
                  have hgd3 : getV (some y2) = .tuple #[.string y2, .bool true] := rfl
                  rw [hgd3] at hcall
                  clear hgd3 hy hgj hmem hjl
                  go_wp2_with fail
                  refine hcall.mono ?_
                  rintro e w88 ⟨rfl, hb88⟩
                  have d1 := (hb88.cell (p := ⟨b1, off1 + j * 2 + 1, none⟩) hlt1).trans c1
                  have HB8 := Lib.hid (hbr.out.trans (hb88.mono hbr.out.size))
                  clear hb88 hcall c0 c1 hLr hXr
                  go_wp2
                  go_roundw
                  case rel => exact ⟨j + 1, by omega, by go_num, HB8⟩
                  case measure => simp [intOf]; omega
                · have hXl := HK1.out (by first | exact rfl | trivial)
                  have hltJ : ¬ (j : Int) < (n1 : Int) := by omega
                  have hB := HB9.out.trans (hbr.out.mono HB9.out.size)
                  rw [hXl] at hXr
                  go_wp2_with fail
                  refine (likeBlobs_any _ _ l l wr hXr hLr hlL hlL).mono ?_
                  rintro e w99 ⟨rfl, hb99⟩
                  rw [decide_eq_true rfl]
                  have hB99 := hB.trans (hb99.mono hB.size)
                  clear hb99 hB hXr hLr
                  go_wp2
                  go_ret
                  exact ⟨rfl, hB99⟩
      | true =>
        obtain ⟨hYs, hYm, hYg⟩ := HDF.out rfl
        have hoy := implStoreOk_any vy Y w18 hY18 hlY HSY.out
        rw [hYs] at hoy
        go_wp2_with fail
        refine (hoy).mono ?_
        rintro e w19 ⟨rfl, hb19⟩
        have hB19 := hB18.trans (hb19.mono hB18.size)
        have hL19 := rdB_below hL18 hb19
        have hX19 := rdB_below hX18 hb19
        have hGg19 := rd_below hGg18 hb19
        have hY19 := rdB_below hY18 hb19
        have hZ19 := rd_below hZ18 hb19
        clear hoy
        clear hb19 hB18 hL18 hX18 hGg18 hY18 hZ18
        have hmy := implMissing_any vy _ Y Z w19 hY19 hZ19 hlY HSY.out hlZ HZ64.out
        rw [hYm] at hmy
        go_wp2_with fail
        refine (hmy).mono ?_
        rintro e w20 ⟨vq, rfl, ho20, hb20⟩
        have hB20 := hB19.trans (hb20.mono hB19.size)
        have hL20 := rdB_below hL19 hb20
        have hX20 := rdB_below hX19 hb20
        have hGg20 := rd_below hGg19 hb20
        have hY20 := rdB_below hY19 hb20
        have hZ20 := rd_below hZ19 hb20
        obtain ⟨aq, cq, hvq⟩ := rd_shape (rd_owns ho20)
        rw [List.length_map, ← HNZ.out] at hvq
        subst hvq
        clear ho20 hmy
        clear hb20 hB19 hL19 hX19 hGg19 hY19 hZ19
        clear hZ20
        have HCY := Lib.hid (fun W d h => implGet_any vy Y d W h hlY HSY.out)
        have HY9 := Lib.hid hY20
        have HG9 := Lib.hid hGg20
        have HL8 := Lib.hid hL20
        have HX8 := Lib.hid hX20
        have HB7 := Lib.hid hB20
        clear hY20 hGg20 hL20 hX20 hB20
        go_wp2
        go_loopw [21] (fun i wr => ∃ j : Nat, j ≤ ng ∧ i = .int .i64 j ∧ Hid (Below w20.heap.size w20 wr)) (fun i _ => ng - (intOf i).toNat)
        case atStart => exact ⟨0, Nat.zero_le _, rfl, Below.refl _ _⟩
        case round =>
          rename World => ws
          obtain ⟨j, hj, rfl, hbr⟩ := hrel
          by_cases hltj : j < ng
          · have hjg : j < g.length := by have := HNG.out; omega
            have hGr := rd_below HG9.out hbr.out
            have hYr := rdB_below HY9.out hbr.out
            obtain ⟨b1, off1, hag, c0⟩ := ints_cells hGr HNG.out hltj
            subst hag
            have hmem : g.getD j 0 ∈ g := by
              have e : g.getD j 0 = g[j] := by simp [List.getD, hjg]
              rw [e]
              exact List.getElem_mem hjg
            have hgj := hYg _ hmem
            obtain ⟨y, hy⟩ : ∃ y, y = g.getD j 0 := ⟨_, rfl⟩
            rw [← hy] at c0 hgj
            have hcall := HCY.out ws y hYr
            rw [hgj] at hcall
            have hgd3 : getV none = .tuple #[.string ⟨#[]⟩, .bool false] := rfl
            rw [hgd3] at hcall
            clear hgd3 hy hgj hmem hjg
            go_wp2_with fail
            refine hcall.mono ?_
            rintro e w88 ⟨rfl, hb88⟩
            have HB8 := Lib.hid (hbr.out.trans (hb88.mono hbr.out.size))
            clear hb88 hcall c0 hGr hYr
            go_wp2
            go_roundw
            case rel => exact ⟨j + 1, by omega, by go_num, HB8⟩
            case measure => simp [intOf]; omega
          have hltJ : ¬ (j : Int) < (ng : Int) := by omega
          have hL21 := rdB_below HL8.out hbr.out
          have hX21 := rdB_below HX8.out hbr.out
          have hB21 := HB7.out.trans (hbr.out.mono HB7.out.size)
          clear hbr HY9 HG9 HCY
          obtain ⟨w21, hw21⟩ : ∃ w, w = ws := ⟨_, rfl⟩
          subst hw21
          go_wp2_with fail
          refine (HOS.out _ _ hL21).mono ?_
          rintro e w22 ⟨rfl, hb22⟩
          have hB22 := hB21.trans (hb22.mono hB21.size)
          have hL22 := rdB_below hL21 hb22
          have hX22 := rdB_below hX21 hb22
          clear hb22 hB21 hL21 hX21
          cases SL with
          | false =>
            obtain ⟨hx0, hk4⟩ := HPC.out.1 rfl
            have hnx0 : nx = 0 := by rw [HNX.out, hx0]; rfl
            subst hk4
            subst hnx0
            go_wp2
            go_ret
            exact ⟨rfl, hB22⟩
          | true =>
            rcases HPC.out.2 rfl with ⟨hk, hXl, hD0⟩ | ⟨hk, hXs, hDs, hgd, hgl, hk1, hk0⟩
            · subst hXl
              subst hD0
              rcases hk with rfl | rfl | rfl
              · go_wp2_with fail
                refine (likeBlobs_any _ _ _ _ w22 hX22 hL22 hlX hlX).mono ?_
                rintro e w99 ⟨rfl, hb99⟩
                rw [decide_eq_true rfl]
                have hB99 := hB22.trans (hb99.mono hB22.size)
                clear hb99
                go_wp2
                go_ret
                exact ⟨rfl, hB99⟩
              · go_wp2_with fail
                refine (likeBlobs_any _ _ _ _ w22 hX22 hL22 hlX hlX).mono ?_
                rintro e w99 ⟨rfl, hb99⟩
                rw [decide_eq_true rfl]
                have hB99 := hB22.trans (hb99.mono hB22.size)
                clear hb99
                go_wp2
                go_ret
                exact ⟨rfl, hB99⟩
              · go_wp2_with fail
                refine (likeBlobs_any _ _ _ _ w22 hX22 hL22 hlX hlX).mono ?_
                rintro e w99 ⟨rfl, hb99⟩
                rw [decide_eq_true rfl]
                have hB99 := hB22.trans (hb99.mono hB22.size)
                clear hb99
                go_wp2
                go_ret
                exact ⟨rfl, hB99⟩
            · have HGL := Lib.hid hgl
              have HDS := Lib.hid hDs
              have HK1 := Lib.hid hk1
              have HK0 := Lib.hid hk0
              have HXS := Lib.hid hXs
              clear hDs hk1 hk0 hXs
              have HCX := Lib.hid (fun v W d h => implGet_any v X d W h hlX HSX.out)
              have hgd2 := HCX.out _ w22 D hX22
              rw [hgd] at hgd2
              have hgd3 : getV (some s) = .tuple #[.string s, .bool true] := rfl
              rw [hgd3] at hgd2
              clear hgd3 hgl hgd
              rcases hk with rfl | rfl
              · go_wp2_with fail
                refine (hgd2).mono ?_
                rintro e w23 ⟨rfl, hb23⟩
                have hB23 := hB22.trans (hb23.mono hB22.size)
                have hL23 := rdB_below hL22 hb23
                have hX23 := rdB_below hX22 hb23
                clear hb23 hB22 hL22 hX22
                have hdg := implDigest_any s w23 (by omega)
                rw [← HDS.out] at hdg
                go_wp2_with fail
                refine (hdg).mono ?_
                rintro e wq23 ⟨rfl, rfl⟩
                clear hdg
                have hok := implStoreOk_any _ X wq23 hX23 hlX HSX.out
                rw [HXS.out] at hok
                go_wp2_with fail
                refine hok.mono ?_
                rintro e w24 ⟨rfl, hb24⟩
                have hB24 := hB23.trans (hb24.mono hB23.size)
                have hL24 := rdB_below hL23 hb24
                have hX24 := rdB_below hX23 hb24
                clear hb24 hB23 hL23 hX23 hok
                have HL9 := Lib.hid hL24
                have HX9 := Lib.hid hX24
                have HB9 := Lib.hid hB24
                clear hL24 hX24 hB24
                go_wp2
                go_loopw [26] (fun i wr => ∃ j : Nat, j ≤ n1 ∧ i = .int .i64 j ∧ Hid (Below w24.heap.size w24 wr)) (fun i _ => n1 - (intOf i).toNat)
                case atStart => exact ⟨0, Nat.zero_le _, rfl, Below.refl _ _⟩
                case round =>
                  rename World => wr
                  obtain ⟨j, hj, rfl, hbr⟩ := hrel
                  have hLr := rdB_below HL9.out hbr.out
                  have hXr := rdB_below HX9.out hbr.out
                  by_cases hltj : j < n1
                  · have hjl : j < l.length := by have := HN1.out; omega
                    obtain ⟨b1, off1, hau, hlt1, hc⟩ := row_cells hLr HN1.out hltj
                    subst hau
                    obtain ⟨c0, c1⟩ := hc
                    have hmem : l.getD j bl0 ∈ l := by rw [getD_at hjl]; exact List.getElem_mem hjl
                    have hgj := HGL.out _ hmem
                    obtain ⟨y, hy⟩ : ∃ y, y = l.getD j bl0 := ⟨_, rfl⟩
                    rw [← hy] at c0 c1 hgj
                    obtain ⟨y1, y2⟩ := y
                    simp only at c0 c1 hgj
                    have hcall := HCX.out _ wr y1 hXr
                    rw [hgj] at hcall
                    have hgd3 : getV (some y2) = .tuple #[.string y2, .bool true] := rfl
                    rw [hgd3] at hcall
                    clear hgd3 hy hgj hmem hjl
                    go_wp2_with fail
                    refine hcall.mono ?_
                    rintro e w88 ⟨rfl, hb88⟩
                    have d1 := (hb88.cell (p := ⟨b1, off1 + j * 2 + 1, none⟩) hlt1).trans c1
                    have HB8 := Lib.hid (hbr.out.trans (hb88.mono hbr.out.size))
                    clear hb88 hcall c0 c1 hLr hXr
                    go_wp2
                    go_roundw
                    case rel => exact ⟨j + 1, by omega, by go_num, HB8⟩
                    case measure => simp [intOf]; omega
                  · have hnn : (nx : Int) = (n1 : Int) + 1 := by have h1 := HK0.out (by first | exact rfl | trivial); have h2 := HN1.out; have h3 := HNX.out; omega
                    have hltJ : ¬ (j : Int) < (n1 : Int) := by omega
                    have hB := HB9.out.trans (hbr.out.mono HB9.out.size)
                    clear hLr hXr
                    go_wp2
                    go_ret
                    exact ⟨by first | rfl | exact ret_boolS (by simp [hnn]), hB⟩
              · go_wp2_with fail
                refine (hgd2).mono ?_
                rintro e w23 ⟨rfl, hb23⟩
                have hB23 := hB22.trans (hb23.mono hB22.size)
                have hL23 := rdB_below hL22 hb23
                have hX23 := rdB_below hX22 hb23
                clear hb23 hB22 hL22 hX22
                have hdg := implDigest_any s w23 (by omega)
                rw [← HDS.out] at hdg
                go_wp2_with fail
                refine (hdg).mono ?_
                rintro e wq23 ⟨rfl, rfl⟩
                clear hdg
                have hok := implStoreOk_any _ X wq23 hX23 hlX HSX.out
                rw [HXS.out] at hok
                go_wp2_with fail
                refine hok.mono ?_
                rintro e w24 ⟨rfl, hb24⟩
                have hB24 := hB23.trans (hb24.mono hB23.size)
                have hL24 := rdB_below hL23 hb24
                have hX24 := rdB_below hX23 hb24
                clear hb24 hB23 hL23 hX23 hok
                have HL9 := Lib.hid hL24
                have HX9 := Lib.hid hX24
                have HB9 := Lib.hid hB24
                clear hL24 hX24 hB24
                go_wp2
                go_loopw [26] (fun i wr => ∃ j : Nat, j ≤ n1 ∧ i = .int .i64 j ∧ Hid (Below w24.heap.size w24 wr)) (fun i _ => n1 - (intOf i).toNat)
                case atStart => exact ⟨0, Nat.zero_le _, rfl, Below.refl _ _⟩
                case round =>
                  rename World => wr
                  obtain ⟨j, hj, rfl, hbr⟩ := hrel
                  have hLr := rdB_below HL9.out hbr.out
                  have hXr := rdB_below HX9.out hbr.out
                  by_cases hltj : j < n1
                  · have hjl : j < l.length := by have := HN1.out; omega
                    obtain ⟨b1, off1, hau, hlt1, hc⟩ := row_cells hLr HN1.out hltj
                    subst hau
                    obtain ⟨c0, c1⟩ := hc
                    have hmem : l.getD j bl0 ∈ l := by rw [getD_at hjl]; exact List.getElem_mem hjl
                    have hgj := HGL.out _ hmem
                    obtain ⟨y, hy⟩ : ∃ y, y = l.getD j bl0 := ⟨_, rfl⟩
                    rw [← hy] at c0 c1 hgj
                    obtain ⟨y1, y2⟩ := y
                    simp only at c0 c1 hgj
                    have hcall := HCX.out _ wr y1 hXr
                    rw [hgj] at hcall
                    have hgd3 : getV (some y2) = .tuple #[.string y2, .bool true] := rfl
                    rw [hgd3] at hcall
                    clear hgd3 hy hgj hmem hjl
                    go_wp2_with fail
                    refine hcall.mono ?_
                    rintro e w88 ⟨rfl, hb88⟩
                    have d1 := (hb88.cell (p := ⟨b1, off1 + j * 2 + 1, none⟩) hlt1).trans c1
                    have HB8 := Lib.hid (hbr.out.trans (hb88.mono hbr.out.size))
                    clear hb88 hcall c0 c1 hLr hXr
                    go_wp2
                    go_roundw
                    case rel => exact ⟨j + 1, by omega, by go_num, HB8⟩
                    case measure => simp [intOf]; omega
                  · have hXl := HK1.out (by first | exact rfl | trivial)
                    have hltJ : ¬ (j : Int) < (n1 : Int) := by omega
                    have hB := HB9.out.trans (hbr.out.mono HB9.out.size)
                    rw [hXl] at hXr
                    go_wp2_with fail
                    refine (likeBlobs_any _ _ l l wr hXr hLr hlL hlL).mono ?_
                    rintro e w99 ⟨rfl, hb99⟩
                    rw [decide_eq_true rfl]
                    have hB99 := hB.trans (hb99.mono hB.size)
                    clear hb99 hB hXr hLr
                    go_wp2
                    go_ret
                    exact ⟨rfl, hB99⟩
    | false =>
      go_wp2_with fail
      refine (HOB.out _ hBb16).mono ?_
      rintro e w17 ⟨rfl, hb17⟩
      have hB17 := hB16.trans (hb17.mono hB16.size)
      have hL17 := rdB_below hL16 hb17
      have hX17 := rdB_below hX16 hb17
      have hBb17 := rdB_below hBb16 hb17
      have hGg17 := rd_below hGg16 hb17
      have hY17 := rdB_below hY16 hb17
      have hZ17 := rd_below hZ16 hb17
      clear hb17 hB16 hL16 hX16 hBb16 hGg16 hY16 hZ16
      clear hBb17
      cases SB with
      | false =>
        clear hGg17
        clear hY17
        clear hZ17
        go_wp2_with fail
        refine (HOS.out _ _ hL17).mono ?_
        rintro e w18 ⟨rfl, hb18⟩
        have hB18 := hB17.trans (hb18.mono hB17.size)
        have hL18 := rdB_below hL17 hb18
        have hX18 := rdB_below hX17 hb18
        clear hb18 hB17 hL17 hX17
        cases SL with
        | false =>
          obtain ⟨hx0, hk4⟩ := HPC.out.1 rfl
          have hnx0 : nx = 0 := by rw [HNX.out, hx0]; rfl
          subst hk4
          subst hnx0
          go_wp2
          go_ret
          exact ⟨rfl, hB18⟩
        | true =>
          rcases HPC.out.2 rfl with ⟨hk, hXl, hD0⟩ | ⟨hk, hXs, hDs, hgd, hgl, hk1, hk0⟩
          · subst hXl
            subst hD0
            rcases hk with rfl | rfl | rfl
            · go_wp2_with fail
              refine (likeBlobs_any _ _ _ _ w18 hX18 hL18 hlX hlX).mono ?_
              rintro e w99 ⟨rfl, hb99⟩
              rw [decide_eq_true rfl]
              have hB99 := hB18.trans (hb99.mono hB18.size)
              clear hb99
              go_wp2
              go_ret
              exact ⟨rfl, hB99⟩
            · go_wp2_with fail
              refine (likeBlobs_any _ _ _ _ w18 hX18 hL18 hlX hlX).mono ?_
              rintro e w99 ⟨rfl, hb99⟩
              rw [decide_eq_true rfl]
              have hB99 := hB18.trans (hb99.mono hB18.size)
              clear hb99
              go_wp2
              go_ret
              exact ⟨rfl, hB99⟩
            · go_wp2_with fail
              refine (likeBlobs_any _ _ _ _ w18 hX18 hL18 hlX hlX).mono ?_
              rintro e w99 ⟨rfl, hb99⟩
              rw [decide_eq_true rfl]
              have hB99 := hB18.trans (hb99.mono hB18.size)
              clear hb99
              go_wp2
              go_ret
              exact ⟨rfl, hB99⟩
          · have HGL := Lib.hid hgl
            have HDS := Lib.hid hDs
            have HK1 := Lib.hid hk1
            have HK0 := Lib.hid hk0
            have HXS := Lib.hid hXs
            clear hDs hk1 hk0 hXs
            have HCX := Lib.hid (fun v W d h => implGet_any v X d W h hlX HSX.out)
            have hgd2 := HCX.out _ w18 D hX18
            rw [hgd] at hgd2
            have hgd3 : getV (some s) = .tuple #[.string s, .bool true] := rfl
            rw [hgd3] at hgd2
            clear hgd3 hgl hgd
            rcases hk with rfl | rfl
            · go_wp2_with fail
              refine (hgd2).mono ?_
              rintro e w19 ⟨rfl, hb19⟩
              have hB19 := hB18.trans (hb19.mono hB18.size)
              have hL19 := rdB_below hL18 hb19
              have hX19 := rdB_below hX18 hb19
              clear hb19 hB18 hL18 hX18
              have hdg := implDigest_any s w19 (by omega)
              rw [← HDS.out] at hdg
              go_wp2_with fail
              refine (hdg).mono ?_
              rintro e wq19 ⟨rfl, rfl⟩
              clear hdg
              have hok := implStoreOk_any _ X wq19 hX19 hlX HSX.out
              rw [HXS.out] at hok
              go_wp2_with fail
              refine hok.mono ?_
              rintro e w20 ⟨rfl, hb20⟩
              have hB20 := hB19.trans (hb20.mono hB19.size)
              have hL20 := rdB_below hL19 hb20
              have hX20 := rdB_below hX19 hb20
              clear hb20 hB19 hL19 hX19 hok
              have HL9 := Lib.hid hL20
              have HX9 := Lib.hid hX20
              have HB9 := Lib.hid hB20
              clear hL20 hX20 hB20
              go_wp2
              go_loopw [26] (fun i wr => ∃ j : Nat, j ≤ n1 ∧ i = .int .i64 j ∧ Hid (Below w20.heap.size w20 wr)) (fun i _ => n1 - (intOf i).toNat)
              case atStart => exact ⟨0, Nat.zero_le _, rfl, Below.refl _ _⟩
              case round =>
                rename World => wr
                obtain ⟨j, hj, rfl, hbr⟩ := hrel
                have hLr := rdB_below HL9.out hbr.out
                have hXr := rdB_below HX9.out hbr.out
                by_cases hltj : j < n1
                · have hjl : j < l.length := by have := HN1.out; omega
                  obtain ⟨b1, off1, hau, hlt1, hc⟩ := row_cells hLr HN1.out hltj
                  subst hau
                  obtain ⟨c0, c1⟩ := hc
                  have hmem : l.getD j bl0 ∈ l := by rw [getD_at hjl]; exact List.getElem_mem hjl
                  have hgj := HGL.out _ hmem
                  obtain ⟨y, hy⟩ : ∃ y, y = l.getD j bl0 := ⟨_, rfl⟩
                  rw [← hy] at c0 c1 hgj
                  obtain ⟨y1, y2⟩ := y
                  simp only at c0 c1 hgj
                  have hcall := HCX.out _ wr y1 hXr
                  rw [hgj] at hcall
                  have hgd3 : getV (some y2) = .tuple #[.string y2, .bool true] := rfl
                  rw [hgd3] at hcall
                  clear hgd3 hy hgj hmem hjl
                  go_wp2_with fail
                  refine hcall.mono ?_
                  rintro e w88 ⟨rfl, hb88⟩
                  have d1 := (hb88.cell (p := ⟨b1, off1 + j * 2 + 1, none⟩) hlt1).trans c1
                  have HB8 := Lib.hid (hbr.out.trans (hb88.mono hbr.out.size))
                  clear hb88 hcall c0 c1 hLr hXr
                  go_wp2
                  go_roundw
                  case rel => exact ⟨j + 1, by omega, by go_num, HB8⟩
                  case measure => simp [intOf]; omega
                · have hnn : (nx : Int) = (n1 : Int) + 1 := by have h1 := HK0.out (by first | exact rfl | trivial); have h2 := HN1.out; have h3 := HNX.out; omega
                  have hltJ : ¬ (j : Int) < (n1 : Int) := by omega
                  have hB := HB9.out.trans (hbr.out.mono HB9.out.size)
                  clear hLr hXr
                  go_wp2
                  go_ret
                  exact ⟨by first | rfl | exact ret_boolS (by simp [hnn]), hB⟩
            · go_wp2_with fail
              refine (hgd2).mono ?_
              rintro e w19 ⟨rfl, hb19⟩
              have hB19 := hB18.trans (hb19.mono hB18.size)
              have hL19 := rdB_below hL18 hb19
              have hX19 := rdB_below hX18 hb19
              clear hb19 hB18 hL18 hX18
              have hdg := implDigest_any s w19 (by omega)
              rw [← HDS.out] at hdg
              go_wp2_with fail
              refine (hdg).mono ?_
              rintro e wq19 ⟨rfl, rfl⟩
              clear hdg
              have hok := implStoreOk_any _ X wq19 hX19 hlX HSX.out
              rw [HXS.out] at hok
              go_wp2_with fail
              refine hok.mono ?_
              rintro e w20 ⟨rfl, hb20⟩
              have hB20 := hB19.trans (hb20.mono hB19.size)
              have hL20 := rdB_below hL19 hb20
              have hX20 := rdB_below hX19 hb20
              clear hb20 hB19 hL19 hX19 hok
              have HL9 := Lib.hid hL20
              have HX9 := Lib.hid hX20
              have HB9 := Lib.hid hB20
              clear hL20 hX20 hB20
              go_wp2
              go_loopw [26] (fun i wr => ∃ j : Nat, j ≤ n1 ∧ i = .int .i64 j ∧ Hid (Below w20.heap.size w20 wr)) (fun i _ => n1 - (intOf i).toNat)
              case atStart => exact ⟨0, Nat.zero_le _, rfl, Below.refl _ _⟩
              case round =>
                rename World => wr
                obtain ⟨j, hj, rfl, hbr⟩ := hrel
                have hLr := rdB_below HL9.out hbr.out
                have hXr := rdB_below HX9.out hbr.out
                by_cases hltj : j < n1
                · have hjl : j < l.length := by have := HN1.out; omega
                  obtain ⟨b1, off1, hau, hlt1, hc⟩ := row_cells hLr HN1.out hltj
                  subst hau
                  obtain ⟨c0, c1⟩ := hc
                  have hmem : l.getD j bl0 ∈ l := by rw [getD_at hjl]; exact List.getElem_mem hjl
                  have hgj := HGL.out _ hmem
                  obtain ⟨y, hy⟩ : ∃ y, y = l.getD j bl0 := ⟨_, rfl⟩
                  rw [← hy] at c0 c1 hgj
                  obtain ⟨y1, y2⟩ := y
                  simp only at c0 c1 hgj
                  have hcall := HCX.out _ wr y1 hXr
                  rw [hgj] at hcall
                  have hgd3 : getV (some y2) = .tuple #[.string y2, .bool true] := rfl
                  rw [hgd3] at hcall
                  clear hgd3 hy hgj hmem hjl
                  go_wp2_with fail
                  refine hcall.mono ?_
                  rintro e w88 ⟨rfl, hb88⟩
                  have d1 := (hb88.cell (p := ⟨b1, off1 + j * 2 + 1, none⟩) hlt1).trans c1
                  have HB8 := Lib.hid (hbr.out.trans (hb88.mono hbr.out.size))
                  clear hb88 hcall c0 c1 hLr hXr
                  go_wp2
                  go_roundw
                  case rel => exact ⟨j + 1, by omega, by go_num, HB8⟩
                  case measure => simp [intOf]; omega
                · have hXl := HK1.out (by first | exact rfl | trivial)
                  have hltJ : ¬ (j : Int) < (n1 : Int) := by omega
                  have hB := HB9.out.trans (hbr.out.mono HB9.out.size)
                  rw [hXl] at hXr
                  go_wp2_with fail
                  refine (likeBlobs_any _ _ l l wr hXr hLr hlL hlL).mono ?_
                  rintro e w99 ⟨rfl, hb99⟩
                  rw [decide_eq_true rfl]
                  have hB99 := hB.trans (hb99.mono hB.size)
                  clear hb99 hB hXr hLr
                  go_wp2
                  go_ret
                  exact ⟨rfl, hB99⟩
      | true =>
        obtain ⟨hYs, hYm, hYg⟩ := HDF.out rfl
        have hoy := implStoreOk_any vy Y w17 hY17 hlY HSY.out
        rw [hYs] at hoy
        go_wp2_with fail
        refine (hoy).mono ?_
        rintro e w18 ⟨rfl, hb18⟩
        have hB18 := hB17.trans (hb18.mono hB17.size)
        have hL18 := rdB_below hL17 hb18
        have hX18 := rdB_below hX17 hb18
        have hGg18 := rd_below hGg17 hb18
        have hY18 := rdB_below hY17 hb18
        have hZ18 := rd_below hZ17 hb18
        clear hoy
        clear hb18 hB17 hL17 hX17 hGg17 hY17 hZ17
        have hmy := implMissing_any vy _ Y Z w18 hY18 hZ18 hlY HSY.out hlZ HZ64.out
        rw [hYm] at hmy
        go_wp2_with fail
        refine (hmy).mono ?_
        rintro e w19 ⟨vq, rfl, ho19, hb19⟩
        have hB19 := hB18.trans (hb19.mono hB18.size)
        have hL19 := rdB_below hL18 hb19
        have hX19 := rdB_below hX18 hb19
        have hGg19 := rd_below hGg18 hb19
        have hY19 := rdB_below hY18 hb19
        have hZ19 := rd_below hZ18 hb19
        obtain ⟨aq, cq, hvq⟩ := rd_shape (rd_owns ho19)
        rw [List.length_map, ← HNZ.out] at hvq
        subst hvq
        clear ho19 hmy
        clear hb19 hB18 hL18 hX18 hGg18 hY18 hZ18
        clear hZ19
        have HCY := Lib.hid (fun W d h => implGet_any vy Y d W h hlY HSY.out)
        have HY9 := Lib.hid hY19
        have HG9 := Lib.hid hGg19
        have HL8 := Lib.hid hL19
        have HX8 := Lib.hid hX19
        have HB7 := Lib.hid hB19
        clear hY19 hGg19 hL19 hX19 hB19
        go_wp2
        go_loopw [21] (fun i wr => ∃ j : Nat, j ≤ ng ∧ i = .int .i64 j ∧ Hid (Below w19.heap.size w19 wr)) (fun i _ => ng - (intOf i).toNat)
        case atStart => exact ⟨0, Nat.zero_le _, rfl, Below.refl _ _⟩
        case round =>
          rename World => ws
          obtain ⟨j, hj, rfl, hbr⟩ := hrel
          by_cases hltj : j < ng
          · have hjg : j < g.length := by have := HNG.out; omega
            have hGr := rd_below HG9.out hbr.out
            have hYr := rdB_below HY9.out hbr.out
            obtain ⟨b1, off1, hag, c0⟩ := ints_cells hGr HNG.out hltj
            subst hag
            have hmem : g.getD j 0 ∈ g := by
              have e : g.getD j 0 = g[j] := by simp [List.getD, hjg]
              rw [e]
              exact List.getElem_mem hjg
            have hgj := hYg _ hmem
            obtain ⟨y, hy⟩ : ∃ y, y = g.getD j 0 := ⟨_, rfl⟩
            rw [← hy] at c0 hgj
            have hcall := HCY.out ws y hYr
            rw [hgj] at hcall
            have hgd3 : getV none = .tuple #[.string ⟨#[]⟩, .bool false] := rfl
            rw [hgd3] at hcall
            clear hgd3 hy hgj hmem hjg
            go_wp2_with fail
            refine hcall.mono ?_
            rintro e w88 ⟨rfl, hb88⟩
            have HB8 := Lib.hid (hbr.out.trans (hb88.mono hbr.out.size))
            clear hb88 hcall c0 hGr hYr
            go_wp2
            go_roundw
            case rel => exact ⟨j + 1, by omega, by go_num, HB8⟩
            case measure => simp [intOf]; omega
          have hltJ : ¬ (j : Int) < (ng : Int) := by omega
          have hL20 := rdB_below HL8.out hbr.out
          have hX20 := rdB_below HX8.out hbr.out
          have hB20 := HB7.out.trans (hbr.out.mono HB7.out.size)
          clear hbr HY9 HG9 HCY
          obtain ⟨w20, hw20⟩ : ∃ w, w = ws := ⟨_, rfl⟩
          subst hw20
          go_wp2_with fail
          refine (HOS.out _ _ hL20).mono ?_
          rintro e w21 ⟨rfl, hb21⟩
          have hB21 := hB20.trans (hb21.mono hB20.size)
          have hL21 := rdB_below hL20 hb21
          have hX21 := rdB_below hX20 hb21
          clear hb21 hB20 hL20 hX20
          cases SL with
          | false =>
            obtain ⟨hx0, hk4⟩ := HPC.out.1 rfl
            have hnx0 : nx = 0 := by rw [HNX.out, hx0]; rfl
            subst hk4
            subst hnx0
            go_wp2
            go_ret
            exact ⟨rfl, hB21⟩
          | true =>
            rcases HPC.out.2 rfl with ⟨hk, hXl, hD0⟩ | ⟨hk, hXs, hDs, hgd, hgl, hk1, hk0⟩
            · subst hXl
              subst hD0
              rcases hk with rfl | rfl | rfl
              · go_wp2_with fail
                refine (likeBlobs_any _ _ _ _ w21 hX21 hL21 hlX hlX).mono ?_
                rintro e w99 ⟨rfl, hb99⟩
                rw [decide_eq_true rfl]
                have hB99 := hB21.trans (hb99.mono hB21.size)
                clear hb99
                go_wp2
                go_ret
                exact ⟨rfl, hB99⟩
              · go_wp2_with fail
                refine (likeBlobs_any _ _ _ _ w21 hX21 hL21 hlX hlX).mono ?_
                rintro e w99 ⟨rfl, hb99⟩
                rw [decide_eq_true rfl]
                have hB99 := hB21.trans (hb99.mono hB21.size)
                clear hb99
                go_wp2
                go_ret
                exact ⟨rfl, hB99⟩
              · go_wp2_with fail
                refine (likeBlobs_any _ _ _ _ w21 hX21 hL21 hlX hlX).mono ?_
                rintro e w99 ⟨rfl, hb99⟩
                rw [decide_eq_true rfl]
                have hB99 := hB21.trans (hb99.mono hB21.size)
                clear hb99
                go_wp2
                go_ret
                exact ⟨rfl, hB99⟩
            · have HGL := Lib.hid hgl
              have HDS := Lib.hid hDs
              have HK1 := Lib.hid hk1
              have HK0 := Lib.hid hk0
              have HXS := Lib.hid hXs
              clear hDs hk1 hk0 hXs
              have HCX := Lib.hid (fun v W d h => implGet_any v X d W h hlX HSX.out)
              have hgd2 := HCX.out _ w21 D hX21
              rw [hgd] at hgd2
              have hgd3 : getV (some s) = .tuple #[.string s, .bool true] := rfl
              rw [hgd3] at hgd2
              clear hgd3 hgl hgd
              rcases hk with rfl | rfl
              · go_wp2_with fail
                refine (hgd2).mono ?_
                rintro e w22 ⟨rfl, hb22⟩
                have hB22 := hB21.trans (hb22.mono hB21.size)
                have hL22 := rdB_below hL21 hb22
                have hX22 := rdB_below hX21 hb22
                clear hb22 hB21 hL21 hX21
                have hdg := implDigest_any s w22 (by omega)
                rw [← HDS.out] at hdg
                go_wp2_with fail
                refine (hdg).mono ?_
                rintro e wq22 ⟨rfl, rfl⟩
                clear hdg
                have hok := implStoreOk_any _ X wq22 hX22 hlX HSX.out
                rw [HXS.out] at hok
                go_wp2_with fail
                refine hok.mono ?_
                rintro e w23 ⟨rfl, hb23⟩
                have hB23 := hB22.trans (hb23.mono hB22.size)
                have hL23 := rdB_below hL22 hb23
                have hX23 := rdB_below hX22 hb23
                clear hb23 hB22 hL22 hX22 hok
                have HL9 := Lib.hid hL23
                have HX9 := Lib.hid hX23
                have HB9 := Lib.hid hB23
                clear hL23 hX23 hB23
                go_wp2
                go_loopw [26] (fun i wr => ∃ j : Nat, j ≤ n1 ∧ i = .int .i64 j ∧ Hid (Below w23.heap.size w23 wr)) (fun i _ => n1 - (intOf i).toNat)
                case atStart => exact ⟨0, Nat.zero_le _, rfl, Below.refl _ _⟩
                case round =>
                  rename World => wr
                  obtain ⟨j, hj, rfl, hbr⟩ := hrel
                  have hLr := rdB_below HL9.out hbr.out
                  have hXr := rdB_below HX9.out hbr.out
                  by_cases hltj : j < n1
                  · have hjl : j < l.length := by have := HN1.out; omega
                    obtain ⟨b1, off1, hau, hlt1, hc⟩ := row_cells hLr HN1.out hltj
                    subst hau
                    obtain ⟨c0, c1⟩ := hc
                    have hmem : l.getD j bl0 ∈ l := by rw [getD_at hjl]; exact List.getElem_mem hjl
                    have hgj := HGL.out _ hmem
                    obtain ⟨y, hy⟩ : ∃ y, y = l.getD j bl0 := ⟨_, rfl⟩
                    rw [← hy] at c0 c1 hgj
                    obtain ⟨y1, y2⟩ := y
                    simp only at c0 c1 hgj
                    have hcall := HCX.out _ wr y1 hXr
                    rw [hgj] at hcall
                    have hgd3 : getV (some y2) = .tuple #[.string y2, .bool true] := rfl
                    rw [hgd3] at hcall
                    clear hgd3 hy hgj hmem hjl
                    go_wp2_with fail
                    refine hcall.mono ?_
                    rintro e w88 ⟨rfl, hb88⟩
                    have d1 := (hb88.cell (p := ⟨b1, off1 + j * 2 + 1, none⟩) hlt1).trans c1
                    have HB8 := Lib.hid (hbr.out.trans (hb88.mono hbr.out.size))
                    clear hb88 hcall c0 c1 hLr hXr
                    go_wp2
                    go_roundw
                    case rel => exact ⟨j + 1, by omega, by go_num, HB8⟩
                    case measure => simp [intOf]; omega
                  · have hnn : (nx : Int) = (n1 : Int) + 1 := by have h1 := HK0.out (by first | exact rfl | trivial); have h2 := HN1.out; have h3 := HNX.out; omega
                    have hltJ : ¬ (j : Int) < (n1 : Int) := by omega
                    have hB := HB9.out.trans (hbr.out.mono HB9.out.size)
                    clear hLr hXr
                    go_wp2
                    go_ret
                    exact ⟨by first | rfl | exact ret_boolS (by simp [hnn]), hB⟩
              · go_wp2_with fail
                refine (hgd2).mono ?_
                rintro e w22 ⟨rfl, hb22⟩
                have hB22 := hB21.trans (hb22.mono hB21.size)
                have hL22 := rdB_below hL21 hb22
                have hX22 := rdB_below hX21 hb22
                clear hb22 hB21 hL21 hX21
                have hdg := implDigest_any s w22 (by omega)
                rw [← HDS.out] at hdg
                go_wp2_with fail
                refine (hdg).mono ?_
                rintro e wq22 ⟨rfl, rfl⟩
                clear hdg
                have hok := implStoreOk_any _ X wq22 hX22 hlX HSX.out
                rw [HXS.out] at hok
                go_wp2_with fail
                refine hok.mono ?_
                rintro e w23 ⟨rfl, hb23⟩
                have hB23 := hB22.trans (hb23.mono hB22.size)
                have hL23 := rdB_below hL22 hb23
                have hX23 := rdB_below hX22 hb23
                clear hb23 hB22 hL22 hX22 hok
                have HL9 := Lib.hid hL23
                have HX9 := Lib.hid hX23
                have HB9 := Lib.hid hB23
                clear hL23 hX23 hB23
                go_wp2
                go_loopw [26] (fun i wr => ∃ j : Nat, j ≤ n1 ∧ i = .int .i64 j ∧ Hid (Below w23.heap.size w23 wr)) (fun i _ => n1 - (intOf i).toNat)
                case atStart => exact ⟨0, Nat.zero_le _, rfl, Below.refl _ _⟩
                case round =>
                  rename World => wr
                  obtain ⟨j, hj, rfl, hbr⟩ := hrel
                  have hLr := rdB_below HL9.out hbr.out
                  have hXr := rdB_below HX9.out hbr.out
                  by_cases hltj : j < n1
                  · have hjl : j < l.length := by have := HN1.out; omega
                    obtain ⟨b1, off1, hau, hlt1, hc⟩ := row_cells hLr HN1.out hltj
                    subst hau
                    obtain ⟨c0, c1⟩ := hc
                    have hmem : l.getD j bl0 ∈ l := by rw [getD_at hjl]; exact List.getElem_mem hjl
                    have hgj := HGL.out _ hmem
                    obtain ⟨y, hy⟩ : ∃ y, y = l.getD j bl0 := ⟨_, rfl⟩
                    rw [← hy] at c0 c1 hgj
                    obtain ⟨y1, y2⟩ := y
                    simp only at c0 c1 hgj
                    have hcall := HCX.out _ wr y1 hXr
                    rw [hgj] at hcall
                    have hgd3 : getV (some y2) = .tuple #[.string y2, .bool true] := rfl
                    rw [hgd3] at hcall
                    clear hgd3 hy hgj hmem hjl
                    go_wp2_with fail
                    refine hcall.mono ?_
                    rintro e w88 ⟨rfl, hb88⟩
                    have d1 := (hb88.cell (p := ⟨b1, off1 + j * 2 + 1, none⟩) hlt1).trans c1
                    have HB8 := Lib.hid (hbr.out.trans (hb88.mono hbr.out.size))
                    clear hb88 hcall c0 c1 hLr hXr
                    go_wp2
                    go_roundw
                    case rel => exact ⟨j + 1, by omega, by go_num, HB8⟩
                    case measure => simp [intOf]; omega
                  · have hXl := HK1.out (by first | exact rfl | trivial)
                    have hltJ : ¬ (j : Int) < (n1 : Int) := by omega
                    have hB := HB9.out.trans (hbr.out.mono HB9.out.size)
                    rw [hXl] at hXr
                    go_wp2_with fail
                    refine (likeBlobs_any _ _ l l wr hXr hLr hlL hlL).mono ?_
                    rintro e w99 ⟨rfl, hb99⟩
                    rw [decide_eq_true rfl]
                    have hB99 := hB.trans (hb99.mono hB.size)
                    clear hb99 hB hXr hLr
                    go_wp2
                    go_ret
                    exact ⟨rfl, hB99⟩
set_option maxRecDepth 100000 in
theorem lifted (os : Os) (started : os.Started) (H : Type) (enc : TypeId × Value → H) :
    ReturnsInHanded {} Try.checked os 7 .any (Rows.fnStoredSpec.pre6 enc Try.prog Try.f7 Rows.fnStoredRow.domain false) (Rows.fnStoredSpec.post enc Try.prog Try.f7 false true false false) := by
  refine returnsInHanded_of_change (C := Try.checked) own started (by kernel_rfl) Try.func7
    (ChangeSpec.witness6 (enc := enc) (C := Try.checked) false ⟨#[], #[.slice none 0 0], []⟩ 8 (by kernel_rfl) (by kernel_rfl) (by kernel_rfl) (by kernel_rfl)) ?_
  intro W base args ds gs before hval0 hW hcnd _
  have hval : ∀ (j : Nat) t v, Try.f7.params[j]? = some t → args[j]? = some v → Value.okWide Try.prog W .any base t v := hval0
  have hW' := hW
  obtain ⟨p, q, hA0, hV, rfl, hfz, hnd⟩ := hW
  have hA : DataW.TrodAll enc Try.prog W 0 (fun _ => true) true Try.f7.params.toList args.toList ds p := hA0
  rw [Try.params7] at hA hval
  obtain ⟨v0, vs0, d0, ds0, p0, q0, hargs0, rfl, rfl, h0, r0⟩ := trodAll_cons hA
  obtain ⟨rfl, rfl, rfl⟩ := trodAll_nil r0
  obtain rfl : args = #[v0] := by cases args; simp_all
  obtain ⟨rfl, rfl⟩ := trodVars_none hV
  obtain ⟨a0, len0, cap0, rfl⟩ := okWide_slice Try.underlying22 (hval 0 22 v0 rfl rfl)
  have k0 := h0
  have lt0 : ∀ x ∈ p0, x.block < W.heap.size := by obtain ⟨m, hm⟩ := k0; exact DataW.trod_lt m _ _ _ hm
  obtain ⟨zs0, hr0, hs0⟩ : ∃ zs : List Int, Rd W (.slice a0 len0 cap0) (zs.map (Value.int .u8)) ∧ ((∀ n ∈ zs, (Lit.int .u8 n).wf = true) ∧ zs.length ≤ 9223372036854775807) := by
    obtain ⟨fuel, hf⟩ := h0
    rcases open_ints Try.underlying22 Try.underlying5 (by kernel_rfl) hf with ⟨hcs, _⟩ | ⟨x, l, c, zs, hcs, _, hl, hm, hz, _, hcell, hwz⟩
    · simp [Value.cells] at hcs
      obtain ⟨rfl, rfl, rfl⟩ := hcs
      exact ⟨[], ⟨none, 0, rfl, Nat.le_refl _, fun h => absurd rfl h⟩, (fun x hx => absurd hx List.not_mem_nil), Nat.zero_le _⟩
    · simp [Value.cells] at hcs
      obtain ⟨rfl, rfl, rfl⟩ := hcs
      exact arg_ints .u8 hl hm (by simpa using hz) hcell hwz
  clear hA0 hval0
  refine (walk _ zs0 W hr0 (wf_bytes hs0.1) hs0.2).mono fun e W' ⟨he, bel⟩ => ?_
  subst he
  exact ⟨_, rfl, _, _, _, [], _, [], hW', trodAll_mk1 (shut_bool Try.underlying4 _), (trodAll_cons_mk (Below.trod laidOut (by kernel_rfl) (of_decide_eq_true (by kernel_rfl)) k0 bel lt0) trodAll_mk0), rfl, bel.frame _, fun h => by cases h⟩

theorem over : Rows.fnStoredRow.holds Try.pinned (OpenSpec.ofChange Rows.fnStoredSpec) :=
  OpenClaim.holds_of_wide 7 Try.f7 rfl rfl rfl rfl rfl rfl rfl ⟨rfl, rfl, rfl, rfl, rfl⟩ rfl rfl rfl rfl rfl (by kernel_rfl) Try.func7 (by kernel_rfl)
    (of_decide_eq_true (by kernel_rfl)) (by unfold Func.isWrapper; first | (rw [if_pos (by decide +kernel)]; kernel_rfl) | (rw [if_neg (by decide +kernel)]; exact ⟨rfl, rfl⟩))
    (fun os started H enc _ => lifted os started H enc)

theorem proved : Rows.FnStoredSaid := over
end Go.Proofs.Ytfoncmeplofedab.fnStored
