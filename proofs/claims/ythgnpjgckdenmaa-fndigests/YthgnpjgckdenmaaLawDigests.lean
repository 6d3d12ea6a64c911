/- FnDigests: two texts have one digest just where they are alike or clash, and a list clashes where two of it do. For every code, without a condition. -/
import Derived.Test.YthgnpjgckdenmaaDrawsD
import Derived.Test.YthgnpjgckdenmaaClashes
import Derived.Test.YthgnpjgckdenmaaArgs
import Derived.Deep.RegionHeld
namespace Go.Proofs.Ythgnpjgckdenmaa.fnDigests
open Go.ChangeShapes Go.WideShapes Go.ChangeAt Go.RowKit
set_option linter.unusedVariables false

/-- the k-th clashes with one of the first q -/
def rowN (xs : List ByteArray) (k q : Nat) : Bool := (List.range q).any fun j => clashB (xs.getD k ByteArray.empty) (xs.getD j ByteArray.empty)
theorem rowN_snoc (xs : List ByteArray) (k q : Nat) : rowN xs k (q + 1) = (rowN xs k q || clashB (xs.getD k ByteArray.empty) (xs.getD q ByteArray.empty)) := by
  simp [rowN, List.range_succ]
theorem clashN_snoc (xs : List ByteArray) (k : Nat) : clashN xs (k + 1) = (clashN xs k || rowN xs k k) := by
  simp [clashN, rowN, List.range_succ]
theorem rowN_zero (xs : List ByteArray) (k : Nat) : rowN xs k 0 = false := by simp [rowN]
theorem clashN_zero (xs : List ByteArray) : clashN xs 0 = false := by simp [clashN]

set_option maxHeartbeats 4000000 in
set_option maxRecDepth 100000 in
theorem walk (va : Value) (bs : List Int) (w : World) (ha : Rd w va (cellsByteS bs)) (hz : Bytes bs) (hlen : bs.length ≤ 9223372036854775807) :
    Calls Try.prog 5 #[va] w fun e w' => e = .returned (.bool true) ∧ Below w.heap.size w w' := by
  by_cases hbig : 4096 < (bs.length : Int)
  · obtain ⟨ao, cap, rfl, _, _⟩ := ha
    have hla : (cellsByteS bs).length = bs.length := by simp
    rw [hla]
    go_enter Try.func5, Try.ntmps5
    go_wp2
    go_ret
    exact ⟨rfl, Below.refl _ _⟩
  · have hl : bs.length ≤ 4096 := by omega
    have hbg : Calls Try.prog 6 #[va] w fun e w' => e = .returned (.bool false) ∧ w' = w := by
      obtain ⟨ao, cap, rfl, _, _⟩ := ha
      have hla : (cellsByteS bs).length = bs.length := by simp
      rw [hla]
      go_enter Try.func6, Try.ntmps6
      go_wp2
      go_ret
      exact ⟨by simp, rfl⟩
    go_enter Try.func5, Try.ntmps5
    go_wp2_with fail
    refine hbg.mono ?_
    rintro e w' ⟨rfl, rfl⟩
    go_wp2_with fail
    refine (drawClash_any va bs _ ha hl hz).mono ?_
    rintro e w1 ⟨a, b, rfl, ha9, hb9, hb1⟩
    have ha1 := rd_below ha hb1
    clear ha hbg hbig
    go_wp2_with fail
    refine (implClash_any a b _ (by omega) (by omega)).mono ?_
    rintro e w2 ⟨rfl, rfl⟩
    go_wp2_with fail
    refine (drawClashes_any va bs _ ha1 hl hz).mono ?_
    rintro e w3 ⟨vl, l, rfl, hll, hall, hrl, hb3⟩
    have hB3 := hb1.trans (hb3.mono hb1.size)
    have HS : Hid (∀ s ∈ l, s.size ≤ 9223372036854775807) := fun s hs => by have := hall s hs; omega
    have HK : Hid (∀ k, (l.getD k ByteArray.empty).size ≤ 9223372036854775807) := getD_size HS.out
    clear ha1 hb1 hb3 hz hall hlen hl
    obtain ⟨c, hc⟩ : ∃ c, c = clashB a b := ⟨_, rfl⟩
    have HC : Hid (clashB a b = c) := hc.symm
    have HC2 : Hid (clashB b a = c) := by show clashB b a = c; rw [clashB_comm, hc]
    have HC3 : Hid (c = clashB a b) := hc
    rw [← hc]
    clear hc
    have h1 : (c != c) = false := by simp
    have h2 : (digest a != digest a) = false := by simp
    have h3 : (clashesB l != clashesB l) = false := by simp
    go_wp2_with fail
    refine (specClash_any a b _ (by omega) (by omega)).mono ?_
    rintro e w4 ⟨rfl, rfl⟩
    rw [HC.out]
    go_wp2_with fail
    refine (implDigest_any a _ (by omega)).mono ?_
    rintro e w5 ⟨rfl, rfl⟩
    go_wp2_with fail
    refine (specDigest_any a _ (by omega)).mono ?_
    rintro e w6 ⟨rfl, rfl⟩
    go_wp2_with fail
    refine (implClashes_any vl l _ hrl (by omega) HS.out).mono ?_
    rintro e w7 ⟨rfl, hb7⟩
    have hrl7 := rd_below hrl hb7
    have hB7 := hB3.trans (hb7.mono hB3.size)
    clear hrl hb7 hB3
    go_wp2_with fail
    refine (specClashes_any vl l _ hrl7 (by omega) HS.out).mono ?_
    rintro e w8 ⟨rfl, hb8⟩
    have hrl8 := rd_below hrl7 hb8
    have hB8 := hB7.trans (hb8.mono hB7.size)
    clear hrl7 hb8 hB7
    obtain ⟨ao, cap, rfl, hcap, hx⟩ := hrl8
    have hla : (cellsS l).length = l.length := by simp
    rw [hla] at hcap hx ⊢
    have HX : Hid (0 < l.length → ∃ b off, ao = some ⟨b, off, none⟩ ∧ ∀ j, j < l.length → w8.cell? ⟨b, off + j, none⟩ = some (.string (l.getD j ByteArray.empty))) := fun hp => by
      obtain ⟨b, off, h1, _, h2⟩ := hx (by intro e; have := congrArg List.length e; rw [hla] at this; simp at this; rw [this] at hp; simp at hp)
      exact ⟨b, off, h1, fun j hj => (h2 j hj).trans (strs_get l j hj)⟩
    have HRL : Hid (Rd w8 (.slice ao l.length cap) (cellsS l)) := ⟨ao, cap, by rw [hla], by rw [hla]; exact hcap, by rw [hla]; exact hx⟩
    clear hx hla
    obtain ⟨n, hn⟩ : ∃ n, n = l.length := ⟨_, rfl⟩
    have HN : Hid (n = l.length) := hn
    rw [← hn] at hll hcap HX HRL ⊢
    clear hn
    go_wp2
    go_loopw [7, 8] (fun f i wr => ∃ k d : Nat, k ≤ n ∧ f = .bool (clashN l k) ∧ i = .int .i64 k ∧ wr = w8.drewN d) (fun _ i _ => n - (intOf i).toNat)
    case atStart => exact ⟨0, 0, Nat.zero_le _, by rw [clashN_zero], rfl, rfl⟩
    case round =>
      obtain ⟨k, d, hk, rfl, rfl, rfl⟩ := hrel
      by_cases hltk : k < n
      · obtain ⟨B, off, rfl, hcell⟩ := HX.out (by omega)
        have hck := hcell k hltk
        have hsk := HK.out k
        go_wp2
        go_loopw [7, 9] (fun f i wr => ∃ j d2 : Nat, j ≤ k ∧ f = .bool (clashN l k || rowN l k j) ∧ i = .int .i64 j ∧ wr = w8.drewN d2) (fun _ i _ => k - (intOf i).toNat)
        case atStart => exact ⟨0, d, Nat.zero_le _, by rw [rowN_zero, Bool.or_false], rfl, rfl⟩
        case round =>
          obtain ⟨j, d2, hj, rfl, rfl, rfl⟩ := hrel
          by_cases hltj : j < k
          · have hcj := hcell j (by omega)
            have hsj := HK.out j
            have hjn : j < n := by omega
            have hnext := rowN_snoc l k j
            obtain ⟨x, hxx⟩ : ∃ x, x = l.getD k ByteArray.empty := ⟨_, rfl⟩
            obtain ⟨y, hyy⟩ : ∃ y, y = l.getD j ByteArray.empty := ⟨_, rfl⟩
            rw [← hxx] at hck hsk hnext
            rw [← hyy] at hcj hsj hnext
            obtain ⟨f, hf⟩ : ∃ f, f = (clashN l k || rowN l k j) := ⟨_, rfl⟩
            have HF : Hid ((clashN l k || rowN l k (j + 1)) = (f || clashB x y)) := by show _ = _; rw [hnext, hf, Bool.or_assoc]
            rw [← hf]
            clear hf hxx hyy hnext hcell
            cases f with
            | true =>
              rw [Bool.true_or] at HF
              go_wp2
              go_quiet (fail)
              go_wp2
              go_roundw
              case rel => exact ⟨j + 1, _, by omega, by rw [HF.out], by go_num, rfl⟩
              case measure => simp [intOf]; omega
            | false =>
              rw [Bool.false_or] at HF
              go_wp2
              go_region_held (fun W : World => W.cell? ⟨B, off + k, none⟩ = some (.string x) ∧ W.cell? ⟨B, off + j, none⟩ = some (.string y)) (go_keep) (first | (go_at_call 29; refine (implClash_any x y _ hsk hsj).mono ?_; rintro e u1 ⟨rfl, rfl⟩))
              go_wp2
              go_roundw
              case rel => exact ⟨j + 1, _, by omega, by rw [HF.out], by go_num, rfl⟩
              case measure => simp [intOf]; omega
          · obtain rfl : j = k := by omega
            have HF : Hid (clashN l (j + 1) = (clashN l j || rowN l j j)) := clashN_snoc l j
            obtain ⟨f, hf⟩ : ∃ f, f = (clashN l j || rowN l j j) := ⟨_, rfl⟩
            rw [← hf] at HF ⊢
            clear hf hcell
            go_wp2
            go_roundw
            case rel => exact ⟨j + 1, d2, by omega, by rw [HF.out], by go_num, rfl⟩
            case measure => simp [intOf]; omega
      · obtain rfl : k = n := by omega
        have HF : Hid (clashesB l = clashN l k) := by show clashesB l = clashN l k; rw [clashesB, HN.out]
        obtain ⟨f, hf⟩ : ∃ f, f = clashN l k := ⟨_, rfl⟩
        rw [← hf] at HF ⊢
        clear hf HX
        have hrl9 : Rd (w8.drewN d) (.slice ao k cap) (cellsS l) := rd_below HRL.out (below_drewN (Below.refl _ _) _)
        have hB9 : Below w'.heap.size w' (w8.drewN d) := below_drewN hB8 _
        obtain ⟨w9, hw9⟩ : ∃ w9, w9 = w8.drewN d := ⟨_, rfl⟩
        rw [← hw9] at hrl9 hB9 ⊢
        clear hw9 hB8 HRL
        have hff : (f == f) = true := by simp
        have hcc : (c == c) = true := by simp
        have hpos : 0 < digest a := by have := digest_in a; omega
        clear h1 h2 h3
        by_cases he : a.toList = b.toList
        focus
          have hab := same_of he
          subst hab
          clear he
        rotate_left
        focus
          have hne : (a.toList == b.toList) = false := beq_eq_false_iff_ne.2 he
          have h68 : (digest a == digest b) = c := by
            rw [HC3.out]
            unfold clashB
            rw [hne]
            rfl
          clear he
        all_goals
          go_wp2_with fail
          refine (implDigest_any _ _ (by omega)).mono ?_
          rintro e u1 ⟨rfl, rfl⟩
          go_wp2_with fail
          refine (implDigest_any _ _ (by omega)).mono ?_
          rintro e u2 ⟨rfl, rfl⟩
          go_wp2_with fail
          refine (implClash_any _ _ _ (by omega) (by omega)).mono ?_
          rintro e u3 ⟨rfl, rfl⟩
          rw [HC2.out]
          go_wp2_with fail
          refine (implClashes_any _ l _ hrl9 (by have := HN.out; omega) HS.out).mono ?_
          rintro e u4 ⟨rfl, hb10⟩
          rw [HF.out]
          have hB10 := hB9.trans (hb10.mono hB9.size)
          clear hB9 hb10 hrl9
          go_wp2_with fail
          refine (implDigest_any _ _ (by omega)).mono ?_
          rintro e u5 ⟨rfl, rfl⟩
          go_wp2
          go_ret
          exact ⟨rfl, hB10⟩

set_option maxRecDepth 100000 in
theorem lifted (os : Os) (started : os.Started) (H : Type) (enc : TypeId × Value → H) :
    ReturnsInHanded {} Try.checked os 5 .any (Rows.fnDigestsSpec.pre6 enc Try.prog Try.f5 Rows.fnDigestsRow.domain false) (Rows.fnDigestsSpec.post enc Try.prog Try.f5 false true false false) := by
  refine returnsInHanded_of_change (C := Try.checked) own started (by kernel_rfl) Try.func5
    (ChangeSpec.witness6 (enc := enc) (C := Try.checked) false ⟨#[], #[.slice none 0 0], []⟩ 8 (by kernel_rfl) (by kernel_rfl) (by kernel_rfl) (by kernel_rfl)) ?_
  intro W base args ds gs before hval0 hW hcnd _
  have hval : ∀ (j : Nat) t v, Try.f5.params[j]? = some t → args[j]? = some v → Value.okWide Try.prog W .any base t v := hval0
  have hW' := hW
  obtain ⟨p, q, hA0, hV, rfl, hfz, hnd⟩ := hW
  have hA : DataW.TrodAll enc Try.prog W 0 (fun _ => true) true Try.f5.params.toList args.toList ds p := hA0
  rw [Try.params5] at hA hval
  obtain ⟨v0, vs0, d0, ds0, p0, q0, hargs0, rfl, rfl, h0, r0⟩ := trodAll_cons hA
  obtain ⟨rfl, rfl, rfl⟩ := trodAll_nil r0
  obtain rfl : args = #[v0] := by cases args; simp_all
  obtain ⟨rfl, rfl⟩ := trodVars_none hV
  obtain ⟨a0, len0, cap0, rfl⟩ := okWide_slice Try.underlying22 (hval 0 22 v0 rfl rfl)
  have k0 := h0
  have lt0 : ∀ x ∈ p0, x.block < W.heap.size := by obtain ⟨m, hm⟩ := k0; exact DataW.trod_lt m _ _ _ hm
  obtain ⟨zs0, hr0, hs0⟩ : ∃ zs : List Int, Rd W (.slice a0 len0 cap0) (zs.map (Value.int .u8)) ∧ ((∀ n ∈ zs, (Lit.int .u8 n).wf = true) ∧ zs.length ≤ 9223372036854775807) := by
    obtain ⟨fuel, hf⟩ := h0
    rcases open_ints Try.underlying22 Try.underlying5 (by kernel_rfl) hf with ⟨hcs, _⟩ | ⟨x, l, c, zs, hcs, _, hl, hm, hz, _, hcell, hwz⟩
    · simp [Value.cells] at hcs
      obtain ⟨rfl, rfl, rfl⟩ := hcs
      exact ⟨[], ⟨none, 0, rfl, Nat.le_refl _, fun h => absurd rfl h⟩, (fun x hx => absurd hx List.not_mem_nil), Nat.zero_le _⟩
    · simp [Value.cells] at hcs
      obtain ⟨rfl, rfl, rfl⟩ := hcs
      exact arg_ints .u8 hl hm (by simpa using hz) hcell hwz
  clear hA0 hval0
  refine (walk _ zs0 W hr0 (wf_bytes hs0.1) hs0.2).mono fun e W' ⟨he, bel⟩ => ?_
  subst he
  exact ⟨_, rfl, _, _, _, [], _, [], hW', trodAll_mk1 (shut_bool Try.underlying4 _), (trodAll_cons_mk (Below.trod laidOut (by kernel_rfl) (of_decide_eq_true (by kernel_rfl)) k0 bel lt0) trodAll_mk0), rfl, bel.frame _, fun h => by cases h⟩

theorem over : Rows.fnDigestsRow.holds Try.pinned (OpenSpec.ofChange Rows.fnDigestsSpec) :=
  OpenClaim.holds_of_wide 5 Try.f5 rfl rfl rfl rfl rfl rfl rfl ⟨rfl, rfl, rfl, rfl, rfl⟩ rfl rfl rfl rfl rfl (by kernel_rfl) Try.func5 (by kernel_rfl)
    (of_decide_eq_true (by kernel_rfl)) (by unfold Func.isWrapper; first | (rw [if_pos (by decide +kernel)]; kernel_rfl) | (rw [if_neg (by decide +kernel)]; exact ⟨rfl, rfl⟩))
    (fun os started H enc _ => lifted os started H enc)

theorem proved : Rows.FnDigestsSaid := over
end Go.Proofs.Ythgnpjgckdenmaa.fnDigests
