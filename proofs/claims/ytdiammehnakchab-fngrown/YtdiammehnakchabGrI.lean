/- CONTRACT: the program's Grown. -/
import Derived.Test.YtdiammehnakchabGrB
import Derived.Test.YtdiammehnakchabGrC
import Derived.Test.YtdiammehnakchabStrs
namespace Go.Proofs.Ytdiammehnakchab
open Go.RowKit
set_option linter.unusedVariables false
theorem leafT_size (c : ByteArray) : (leafT c).size = c.size + 1 := by unfold leafT leafL; rw [asB_size, List.length_cons, byts_len]
theorem full_not {cs : List ByteArray} (h : cs.any fullB = true) : ¬ ∀ c ∈ cs, c.size < 2000 := fun k => by
  obtain ⟨c, hc, hf⟩ := List.any_eq_true.1 h
  have := k c hc
  unfold fullB at hf
  have := of_decide_eq_true hf
  omega
theorem full_all {cs : List ByteArray} (h : cs.any fullB = false) : ∀ c ∈ cs, c.size < 2000 := fun c hc => by
  have := List.any_eq_false.1 h c hc
  unfold fullB at this
  simp at this
  omega
theorem up_size {ds : List Int} {x : ByteArray} (h : x ∈ upT ds) : x.size ≤ 31 := by
  obtain ⟨p, _, rfl⟩ := List.mem_map.1 h
  exact brT_31
theorem strD_step (xs : List ByteArray) (n k : Nat) (h : k < xs.length) (hn : k < n) : ((cellsS (xs.take k ++ List.replicate (n - k) (⟨#[]⟩ : ByteArray))).set k (.string (xs.getD k ByteArray.empty))) = cellsS (xs.take (k + 1) ++ List.replicate (n - (k + 1)) (⟨#[]⟩ : ByteArray)) := by
  have e : (cellsS (xs.take k)).length = k := by simp; omega
  have e1 : n - k = (n - (k + 1)) + 1 := by omega
  have e2 : cellsS (xs.take k ++ List.replicate (n - k) (⟨#[]⟩ : ByteArray)) = cellsS (xs.take k) ++ (Value.string ⟨#[]⟩ :: cellsS (List.replicate (n - (k + 1)) (⟨#[]⟩ : ByteArray))) := by rw [e1, List.replicate_succ, cellsS, List.map_append, List.map_cons]
  rw [e2, List.set_append_right _ _ (by omega), e, Nat.sub_self, List.set_cons_zero, take_snoc xs ByteArray.empty k h]
  simp
theorem lf_step (cs : List ByteArray) (n k : Nat) (h : k < cs.length) (hn : k < n) : ((cellsS ((cs.map leafT).take k ++ List.replicate (n - k) (⟨#[]⟩ : ByteArray))).set k (.string (leafT (cs.getD k ByteArray.empty)))) = cellsS ((cs.map leafT).take (k + 1) ++ List.replicate (n - (k + 1)) (⟨#[]⟩ : ByteArray)) := by
  have h2 := strD_step (cs.map leafT) n k (by simpa using h) hn
  have e : (cs.map leafT).getD k ByteArray.empty = leafT (cs.getD k ByteArray.empty) := by simp [List.getD, h]
  rwa [e] at h2
set_option maxHeartbeats 4000000 in
set_option maxRecDepth 100000 in
theorem implGrown_any (va : Value) (cs : List ByteArray) (w : World) (ha : Rd w va (cellsS cs)) (hl : cs.length ≤ 1048576) (hs : ∀ c ∈ cs, c.size ≤ 1048576) :
    Calls Try.prog 63 #[va] w fun e w' => ∃ v, e = .returned (.tuple #[v, .int .i64 (grownT cs).2]) ∧ w'.ownsRow w.heap.size 9 1 v (grownT cs).1.length (cellsS (grownT cs).1) ∧ Below w.heap.size w w' := by
  obtain ⟨iS, hiS, hS0, hS1, hS2⟩ := info_parts Try.infoS
  have hla : (cellsS cs).length = cs.length := by simp
  have hcf := containsFuncS_any va cs w ha hl (fun p hp => by have := hs p hp; omega)
  obtain ⟨ao, cap, hv, hcap, hx⟩ := ha
  rw [hla] at hv hcap hx
  subst hv
  by_cases h64 : 1 ≤ cs.length ∧ cs.length ≤ 64
  rotate_left
  · have HG : Hid (grownT cs = ([], 0)) := by show _ = _; unfold grownT; rw [if_neg (fun h => h64 ⟨h.1, h.2.1⟩)]
    generalize grownT cs = G at HG ⊢
    have hG := HG.out
    subst hG
    clear hx hla HG hcf hs
    generalize cs.length = n at h64 hcap hl ⊢
    by_cases h1 : (n : Int) < 1
    · go_enter Try.func63, Try.ntmps63
      go_wp2
      go_ret2
      exact ⟨_, rfl, World.ownsRow_nil _ _ _ _, Below.refl _ _⟩
    · have h4 : (64 : Int) < (n : Int) := by omega
      go_enter Try.func63, Try.ntmps63
      go_wp2
      go_ret2
      exact ⟨_, rfl, World.ownsRow_nil _ _ _ _, Below.refl _ _⟩
  cases hfu : cs.any fullB with
  | true =>
    have HG : Hid (grownT cs = ([], 0)) := by show _ = _; unfold grownT; rw [if_neg (fun h => full_not hfu h.2.2)]
    generalize grownT cs = G at HG ⊢
    have hG := HG.out
    subst hG
    rw [hfu] at hcf
    clear hx hla HG hs hfu
    generalize cs.length = n at h64 hcap hl hcf ⊢
    have h1 : ¬ (n : Int) < 1 := by omega
    have h4 : ¬ (64 : Int) < (n : Int) := by omega
    go_enter Try.func63, Try.ntmps63
    go_wp2_with fail
    refine hcf.mono ?_
    rintro e w1 ⟨rfl, rfl⟩
    go_wp2
    go_ret2
    exact ⟨_, rfl, World.ownsRow_nil _ _ _ _, Below.refl _ _⟩
  | false =>
    have HG : Hid (grownT cs = (cs.map leafT ++ (above 5 (cs.map leafT)).1, (above 5 (cs.map leafT)).2)) := by show _ = _; unfold grownT; rw [if_pos ⟨h64.1, h64.2, full_all hfu⟩]
    rw [hfu] at hcf
    obtain ⟨b, off, rfl, hlt, hc⟩ := hx (by intro e; have := congrArg List.length e; rw [hla] at this; simp at this; rw [this] at h64; simp at h64)
    have HA : Hid (∀ j, j < cs.length → w.cell? ⟨b, off + j, none⟩ = some (.string (cs.getD j ByteArray.empty))) := fun j hj => (hc j hj).trans (strs_get cs j hj)
    have HS : Hid (∀ k, (cs.getD k ByteArray.empty).size ≤ 1048576) := getD_size hs
    have HLS : Hid (∀ c ∈ cs.map leafT, c.size ≤ 1048576) := fun c hc => by
      obtain ⟨x, hx, rfl⟩ := List.mem_map.1 hc
      have := full_all hfu x hx
      rw [leafT_size]
      omega
    generalize grownT cs = G at HG ⊢
    obtain ⟨n, hn⟩ : ∃ n, n = cs.length := ⟨_, rfl⟩
    have HN : Hid (n = cs.length) := hn
    rw [← hn] at hcap h64 HA hcf ⊢
    clear hx hla hn hs hl hc hfu
    have h1 : ¬ (n : Int) < 1 := by omega
    have h4 : ¬ (64 : Int) < (n : Int) := by omega
    go_enter Try.func63, Try.ntmps63
    go_wp2_with fail
    refine hcf.mono ?_
    rintro e w1 ⟨rfl, rfl⟩
    clear hcf
    go_wp2_with (at_make; refine wpList_make_full _ rfl _ _ 44 rfl w1.heap.size 9 iS (.string ⟨#[]⟩) 1 Try.underlying44 hiS hS0 hS1 _ _ _ _ n rfl rfl rfl rfl (by rw [hS2]; omega) (by unfold maxLen; omega) ?c1 ?_)
    case c1 => exact Nat.le_refl _
    intro w0 hmade hg0
    have hb0 : Below w1.heap.size w1 w0 := (Below.refl _ _).grown hg0 (Nat.le_refl _) (fun k hk => by cases hk)
    have hm2 : w0.ownsRow w1.heap.size 9 1 (.slice (some ⟨w1.heap.size, 0, none⟩) n n) n (cellsS ((cs.map leafT).take 0 ++ List.replicate (n - 0) (⟨#[]⟩ : ByteArray))) := by
      have h := hmade
      rw [toList_madeCells_one] at h
      simpa using h
    clear hg0 hmade
    go_wp2
    go_loopw [25] (fun i wr => ∃ k : Nat, k ≤ n ∧ i = .int .i64 k ∧ wr.ownsRow w1.heap.size 9 1 (.slice (some ⟨w1.heap.size, 0, none⟩) n n) n (cellsS ((cs.map leafT).take k ++ List.replicate (n - k) (⟨#[]⟩ : ByteArray))) ∧ Below w1.heap.size w1 wr) (fun i _ => n - (intOf i).toNat)
    case atStart => exact ⟨0, Nat.zero_le _, rfl, hm2, hb0⟩
    case round =>
      rename World => wr
      obtain ⟨k, hk, rfl, ho, hb⟩ := hrel
      clear hb0 hm2
      by_cases hltk : k < n
      · have hx := HN.out
        have hca : wr.cell? ⟨b, off + k, none⟩ = some (.string (cs.getD k ByteArray.empty)) := (hb.cell (p := ⟨b, off + k, none⟩) hlt).trans (HA.out k hltk)
        have hsz := HS.out k
        have HST := Lib.hid (fun (wy : World) (h : Below wr.heap.size wr wy) => by
          have ho2 := owns_below ho h
          have h1 := ho2.stored k (.string (leafT (cs.getD k ByteArray.empty)))
          rw [lf_step cs n k (by omega) hltk] at h1
          exact (⟨(ho2.cellAt k (by omega)).trans (strs_get _ k (by simp; omega)), ho2.frozenAt k, h1, (hb.trans (h.mono hb.size)).setCell (p := ⟨w1.heap.size, k, none⟩) (Nat.le_refl _) (.string (leafT (cs.getD k ByteArray.empty)))⟩ : wy.cell? ⟨w1.heap.size, k, none⟩ = some (.string (((cs.map leafT).take k ++ List.replicate (n - k) (⟨#[]⟩ : ByteArray)).getD k ByteArray.empty)) ∧ wy.frozen? ⟨w1.heap.size, k, none⟩ = false ∧ _ ∧ Below w1.heap.size w1 (wy.setCell ⟨w1.heap.size, k, none⟩ (.string (leafT (cs.getD k ByteArray.empty))))))
        obtain ⟨u, hu⟩ : ∃ u, u = Value.string (((cs.map leafT).take k ++ List.replicate (n - k) (⟨#[]⟩ : ByteArray)).getD k ByteArray.empty) := ⟨_, rfl⟩
        rw [← hu] at HST
        obtain ⟨x, hxx⟩ : ∃ x, x = cs.getD k ByteArray.empty := ⟨_, rfl⟩
        rw [← hxx] at hca hsz HST
        have hcall := implLeaf_any x wr hsz
        obtain ⟨t, ht⟩ : ∃ t, t = leafT x := ⟨_, rfl⟩
        rw [← ht] at hcall HST
        clear hx hu hxx ho ht
        go_wp2_with fail
        refine hcall.mono ?_
        rintro e w2 ⟨rfl, hb2⟩
        obtain ⟨c2, f2, ⟨hs1, hs2⟩, hb3⟩ := HST.out w2 hb2
        clear HST hcall hca
        go_wp2
        go_roundw
        case rel => exact ⟨k + 1, by omega, by go_num, hs1, hb3⟩
        case measure => simp [intOf]; omega
      · obtain rfl : k = n := by omega
        have hx := HN.out
        rw [List.take_of_length_le (by rw [List.length_map]; omega), Nat.sub_self, List.replicate_zero, List.append_nil] at ho
        have hAl : (cs.map leafT).length = k := by rw [List.length_map]; exact hx.symm
        have hG1 : G.1.length ≤ 192 := by
          have h2 := above_len 5 (cs.map leafT)
          rw [HG.out, List.length_append, hAl]
          omega
        have HG1 : Hid (G.1 = cs.map leafT ++ (above (4 + 1) (cs.map leafT)).1 ∧ G.2 = (above (4 + 1) (cs.map leafT)).2) := by show _ ∧ _; rw [HG.out]; exact ⟨rfl, rfl⟩
        have HG192 := Lib.hid hG1
        have hou := ho
        rw [← hAl] at hou
        have hrd := rd_owns ho
        obtain ⟨A0, hA0⟩ : ∃ A0, A0 = cs.map leafT := ⟨_, rfl⟩
        rw [← hA0] at hou hrd HLS HG1 hAl
        have hA4 : A0.length ≤ 4 ^ 4 := by have : 4 ^ 4 = 256 := rfl; omega
        have hA1 : 1 ≤ A0.length := by omega
        have hA64 : A0.length ≤ 64 := by omega
        obtain ⟨G1, G2⟩ := G
        simp only at HG1 HG192
        clear hA0 HG ho hG1 hx HS HA HN
        subst hAl
        have hkI : ¬ (A0.length : Int) < (A0.length : Int) := by omega
        clear hltk hk
        obtain ⟨L0, hL0⟩ : ∃ L0, L0 = A0.length := ⟨_, rfl⟩
        have HL0 := Lib.hid hL0
        rw [← hL0] at hou hrd hkI ⊢
        clear hL0
        go_wp2
        go_loopg [4, 7] 4 (fun f vr vt ws => ∃ (A out : List ByteArray), 1 ≤ A.length ∧ A.length ≤ 64 ∧ A.length ≤ 4 ^ f ∧ Hid (∀ c ∈ A, c.size ≤ 1048576) ∧ ws.ownsRow w1.heap.size 9 1 vt out.length (cellsS out) ∧ Rd ws vr (cellsS A) ∧ Hid (G1 = out ++ (above (f + 1) A).1 ∧ G2 = (above (f + 1) A).2) ∧ Below w1.heap.size w1 ws)
        case atStart => exact ⟨A0, A0, hA1, hA64, hA4, HLS, by rw [← HL0.out]; exact hou, hrd, HG1, hb⟩
        case round =>
          clear hrd hou HG1 hb HLS hA4 hA1 hA64 h64 hcap h1 h4
          obtain ⟨A, out, hA1, hA64, hA4, HLS, hos, hrs, hGs, hbs⟩ := hrel
          have hss := hbs.size
          have hlaA : (cellsS A).length = A.length := by simp
          have hol : out.length ≤ 192 := by
            have h2 := hGs.out.1
            have h3 := HG192.out
            rw [h2, List.length_append] at h3
            omega
          rcases rd_cases hrs with ⟨h0, _⟩ | ⟨hpA, br, offr, cr, rfl, hcr, hltr, hcc⟩
          · have e : A = [] := by simpa using h0
            subst e
            simp at hA1
          rw [hlaA] at hcc hpA hcr ⊢
          by_cases hone : A.length ≤ 1
          · have hGe := hGs.out
            rw [above_low _ hone] at hGe
            have g1 : G1 = out := by have h9 := hGe.1; simpa using h9
            have g2 : G2 = digest (A.getD 0 ByteArray.empty) := hGe.2
            have hc0 := hcc 0 (by omega)
            rw [strs_get A 0 (by omega), Nat.add_zero] at hc0
            have hz0 : (A.getD 0 ByteArray.empty).size ≤ 1048576 := getD_size HLS.out 0
            have hcall := implDigest_any (A.getD 0 ByteArray.empty) wr (by omega)
            rw [← g2] at hcall
            obtain ⟨x, hx⟩ : ∃ x, x = A.getD 0 ByteArray.empty := ⟨_, rfl⟩
            rw [← hx] at hc0 hz0 hcall
            subst g1
            have hlI : A.length = 1 := by omega
            rw [hlI]
            clear hGe g2 hx hcc hrs hlaA hGs hA4 hone HLS hA1 hA64 hpA hlI
            go_wp2_with fail
            refine hcall.mono ?_
            rintro e w5 ⟨rfl, rfl⟩
            go_wp2
            go_ret2
            exact ⟨_, rfl, hos, hbs⟩
          · have h2 : 1 < A.length := by omega
            obtain ⟨f, hf⟩ : ∃ f, gk = f + 1 := by
              cases gk with
              | zero => simp at hA4; omega
              | succ f => exact ⟨f, rfl⟩
            subst hf
            have hU4 : (upT (dgs A)).length ≤ 4 ^ f := upT_short hA4
            have hGe := hGs.out
            rw [above_high (f + 1) h2] at hGe
            have hUn := upT_len (dgs A)
            have hdl : (dgs A).length = A.length := by simp [dgs]
            rw [hdl] at hUn
            have hcall := branchesOver_any _ A wr hrs hA1 hA64 HLS.out
            rw [hlaA] at hcall
            have HUS : Hid (∀ c ∈ upT (dgs A), c.size ≤ 1048576) := fun c hc => Nat.le_trans (up_size hc) (by omega)
            obtain ⟨U, hU⟩ : ∃ U, U = upT (dgs A) := ⟨_, rfl⟩
            rw [← hU] at hU4 hGe hUn hcall HUS
            have HGE : Hid (G1 = (out ++ U) ++ (above (f + 1) U).1 ∧ G2 = (above (f + 1) U).2) := ⟨by rw [hGe.1, List.append_assoc], hGe.2⟩
            obtain ⟨L, hL⟩ : ∃ L, L = A.length := ⟨_, rfl⟩
            rw [← hL] at hcall hUn h2 ⊢
            have hL64 : L ≤ 64 := by omega
            have hU1 : 1 ≤ U.length := by omega
            have hU64 : U.length ≤ 64 := by omega
            have HU4 := Lib.hid hU4
            clear hGe hU hdl hL hcc hrs hlaA hGs hA4 hone HLS hA1 hA64 hpA hU4 hUn hcr
            go_wp2_with fail
            refine hcall.mono ?_
            rintro e w5 ⟨v5, rfl, ho5, hb5⟩
            have hos5 := owns_below hos hb5
            have hbs5 := hbs.trans (hb5.mono hss)
            have hss5 := hbs5.size
            obtain ⟨g5, c5, rfl, hg5⟩ := owns_head ho5 (by omega)
            have hcells := ho5.cells (g := g5) rfl
            have hvlt := fun k hk => (hos.lt k hk).2
            have hg5b := (ho5.lt g5 hg5).1
            clear hcall hb5 hos hbs
            go_wp2_with (at_builtin; refine wpList_append_own _ rfl _ _ 44 rfl w1.heap.size 9 iS (.string ⟨#[]⟩) 1 16 Try.underlying44 hiS hS0 hS1 hS2 rfl (by decide) _ _ _ rfl hos5 ⟨g5, 0, none⟩ U.length c5 (cellsS U) rfl (by simp) hcells (fun u hu => by obtain ⟨s, _, rfl⟩ := List.mem_map.1 hu; rfl) (by unfold maxLen; omega) (by omega) hss5 ?_)
            intro v6 w6 ho6 hg6 _
            have hb6 := hbs5.grown hg6 hss5 (fun k hk => (hos5.lt k hk).1)
            have ho56 := owns_grown ho5 hg6 (fun k hk h => by
              have h1 := hvlt k hk
              have h3 : g5 = k := Option.some.inj h
              omega)
            have ho7 : w6.ownsRow w1.heap.size 9 1 v6 (out ++ U).length (cellsS (out ++ U)) := by rw [List.length_append, cellsS, List.map_append]; exact ho6
            have hrd6 := rd_owns ho56
            clear ho6 hg6 hos5 hbs5 ho5 ho56 hcells hvlt hg5b
            go_wp2
            go_roundg f
            case measure => omega
            case rel => exact ⟨U, out ++ U, hU1, hU64, HU4.out, HUS, ho7, hrd6, HGE, hb6⟩
end Go.Proofs.Ytdiammehnakchab
