/- THE LAWS' OWN READERS OVER ROWS OF BLOBS: markBlobS, heldBlobS. -/
import Derived.Test.YtncmeocjiinmfalBlobS
import Derived.Test.YtncmeocjiinmfalMarks
namespace Go.Proofs.Ytncmeocjiinmfal
open Go.RowKit
set_option linter.unusedVariables false
/-- what markBlobS lays from m on -/
def marksBl (m n : Nat) : List Bl := (List.range n).map fun (j : Nat) => (((m + 2 * j : Nat) : Int), mtxt (m + 2 * j + 1))
theorem marksBl_len (m n : Nat) : (marksBl m n).length = n := by simp [marksBl]
theorem marksBl_succ (m k : Nat) : marksBl m (k + 1) = marksBl m k ++ [(((m + 2 * k : Nat) : Int), mtxt (m + 2 * k + 1))] := by simp [marksBl, List.range_succ]
theorem marksBl_get {m n j : Nat} (h : j < n) : (marksBl m n).getD j bl0 = (((m + 2 * j : Nat) : Int), mtxt (m + 2 * j + 1)) := by simp [marksBl, List.getD, h]
theorem marksBl_step (m k : Nat) (xs : List Bl) (h : k < xs.length) : (marksBl m k ++ xs.drop k).set k (((m + 2 * k : Nat) : Int), mtxt (m + 2 * k + 1)) = marksBl m (k + 1) ++ xs.drop (k + 1) := by
  rw [List.drop_eq_getElem_cons h, marksBl_succ, List.set_append_right _ _ (by rw [marksBl_len]; exact Nat.le_refl _), marksBl_len, Nat.sub_self, List.set_cons_zero, List.append_assoc]
  rfl
set_option maxRecDepth 100000 in
theorem markTextB_any (k0 : Nat) (w : World) (h0 : 0 < k0) (h1 : k0 ≤ 16777216) :
    Calls Try.prog 43 #[.int .i64 (k0 : Int)] w fun e w' => e = .returned (.string (mtxt k0)) ∧ Below w.heap.size w w' := by
  have hle : ¬ ((k0 : Int) ≤ 0) := by omega
  go_enter Try.func43, Try.ntmps43
  go_wp2
  go_loopw [0, 3] (fun q s wr => ∃ (k f : Nat) (o : ByteArray), q = .int .i64 k ∧ k ≤ f ∧ f ≤ k0 ∧ s = .string o ∧ o.size ≤ 16777216 + (k0 - f) ∧ Hid (digF k0 k0 ⟨#[]⟩ = digF f k o) ∧ Below w.heap.size w wr) (fun q _ _ => (intOf q).toNat)
  case atStart => exact ⟨k0, k0, ⟨#[]⟩, rfl, Nat.le_refl _, Nat.le_refl _, rfl, Nat.zero_le _, rfl, Below.refl _ _⟩
  case round =>
    obtain ⟨k, f, o, rfl, hkf, hfk, rfl, ho, hd, hb⟩ := hrel
    have hs := hb.size
    by_cases hk : 0 < (k : Int)
    · have hst := str_one wr (48 + (k : Int) % 10) (by omega)
      obtain ⟨g, rfl⟩ : ∃ g, f = g + 1 := ⟨f - 1, by omega⟩
      have hd2 : Hid (digF k0 k0 ⟨#[]⟩ = digF g (k / 10) (asB [48 + (k : Int) % 10] ++ o)) := by
        have h := hd.out
        rw [digF, if_neg (by omega)] at h
        exact h
      have hsz : (asB [48 + (k : Int) % 10] ++ o).size ≤ 16777216 + (k0 - g) := by
        rw [ByteArray.size_append, asB_size]; simp only [List.length_singleton]; omega
      have ha1 : (asB [48 + (k : Int) % 10]).size = 1 := by rw [asB_size]; rfl
      have hadd : ∀ W : World, (Op.stringOp .add (asB [48 + (k : Int) % 10]) o).run Try.prog W = .ok (.string (asB [48 + (k : Int) % 10] ++ o)) W := fun W => run_string_add_sum W _ _ (by omega)
      obtain ⟨t, ht⟩ : ∃ t, t = asB [48 + (k : Int) % 10] := ⟨_, rfl⟩
      rw [← ht] at hst hd2 hsz ha1 hadd
      clear ht hd
      go_wp2
      go_roundw
      case rel => exact ⟨k / 10, g, t ++ o, by go_num, by omega, by omega, rfl, hsz, hd2, hb.alloc hs _⟩
      case measure => simp [intOf]; omega
    · have hz : k = 0 := by omega
      subst hz
      have hm1 : (⟨#[109]⟩ : ByteArray).size = 1 := rfl
      have hd2 : Hid (mtxt k0 = ⟨#[109]⟩ ++ o) := by
        have h := hd.out
        rw [digF_zero] at h
        unfold mtxt
        rw [h]; rfl
      have hadd : ∀ W : World, (Op.stringOp .add ⟨#[109]⟩ o).run Try.prog W = .ok (.string (⟨#[109]⟩ ++ o)) W := fun W => run_string_add_sum W _ _ (by omega)
      clear hd hm1
      go_wp2
      go_ret
      exact ⟨by rw [hd2.out]; rfl, hb⟩
set_option maxHeartbeats 2000000 in
set_option maxRecDepth 100000 in
theorem markBlobS_any (base : Nat) (v : Value) (m : Nat) (xs : List Bl) (w : World) (hown : w.ownsRow base 51 2 v xs.length (blC xs)) (hl : xs.length ≤ 1048576) (hm : 0 < m) (hm2 : m ≤ 4194304) :
    Calls Try.prog 14 #[v, .int .i64 (m : Int)] w fun e w' => e = .returned (.int .i64 ((m + 2 * xs.length : Nat) : Int)) ∧ w'.ownsRow base 51 2 v xs.length (blC (marksBl m xs.length)) ∧ w.grownBy w' v.ownBlock := by
  rcases hown.2 with ⟨hv, h0⟩ | ⟨g, cap, cur, hv, hbg, hh, hn, _⟩
  · have hx : xs = [] := List.eq_nil_of_length_eq_zero h0
    subst hx hv
    go_enter Try.func14, Try.ntmps14
    go_wp2
    refine wp_loop_rounds 1 ?_
    rw [rounds_succ]
    go_wp2
    go_ret
    exact ⟨ret_int (by simp), by simpa [marksBl] using hown, World.grownBy.refl _ _⟩
  · subst hv
    have hgs : g < w.heap.size := (Array.getElem?_eq_some_iff.1 hh).1
    obtain ⟨n, hnx⟩ : ∃ n, n = xs.length := ⟨_, rfl⟩
    rw [← hnx] at hown hl ⊢
    have HX : Hid (n = xs.length) := hnx
    clear hh hn hnx
    go_enter Try.func14, Try.ntmps14
    go_wp2
    go_loopw [1, 5] (fun q i wr => ∃ k t : Nat, k ≤ n ∧ q = .int .i64 t ∧ Hid (t = m + 2 * k) ∧ t ≤ 6291456 ∧ i = .int .i64 k ∧ wr.ownsRow base 51 2 (.slice (some ⟨g, 0, none⟩) n cap) n (blC (marksBl m k ++ xs.drop k)) ∧ w.grownBy wr (some g)) (fun _ i _ => n - (intOf i).toNat)
    case atStart => exact ⟨0, m, Nat.zero_le _, rfl, rfl, by omega, rfl, by simpa [marksBl] using hown, World.grownBy.refl _ _⟩
    case round =>
      rename World => w1
      obtain ⟨k, t, hk, rfl, ht, htb, rfl, ho, hg⟩ := hrel
      by_cases hlt : k < n
      · have hkx : k < xs.length := by have := HX.out; omega
        have hll : (marksBl m k ++ xs.drop k).length = n := by have := HX.out; rw [List.length_append, marksBl_len, List.length_drop]; omega
        obtain ⟨e0, e1⟩ := blC_get (marksBl m k ++ xs.drop k) k (by omega)
        have f0 := ho.cellAt (k * 2) (by omega)
        rw [e0] at f0
        have z0 := ho.frozenAt (k * 2)
        have hst1 := ho.stored (k * 2) (.int .i64 (t : Int))
        have hcall : Hid (Calls Try.prog 43 #[.int .i64 ((t : Int) + 1)] (w1.setCell ⟨g, k * 2, none⟩ (.int .i64 (t : Int))) fun e w' => e = .returned (.string (mtxt (t + 1))) ∧ Below (w1.setCell ⟨g, k * 2, none⟩ (.int .i64 (t : Int))).heap.size (w1.setCell ⟨g, k * 2, none⟩ (.int .i64 (t : Int))) w') := by
          have h := markTextB_any (t + 1) (w1.setCell ⟨g, k * 2, none⟩ (.int .i64 (t : Int))) (by omega) (by omega)
          rw [show (((t + 1 : Nat)) : Int) = (t : Int) + 1 by omega] at h
          exact h
        obtain ⟨u0, hu0⟩ : ∃ u0, u0 = ((marksBl m k ++ xs.drop k).getD k bl0).1 := ⟨_, rfl⟩
        rw [← hu0] at f0
        have HG1 := Lib.hid (grown_trans hg hst1.2)
        have HO1 := Lib.hid hst1.1
        clear hu0 hst1 hg ho e0
        go_wp2_with fail
        refine hcall.out.mono ?_
        rintro e w3 ⟨rfl, hb3⟩
        have ho3 := owns_below HO1.out hb3
        have hg3 : w.grownBy w3 (some g) := grown_below HG1.out hb3
        have hlc : ((blC (marksBl m k ++ xs.drop k)).set (k * 2) (.int .i64 (t : Int))).length = n * 2 := by rw [List.length_set, blC_len, hll]
        have f1 := ho3.cellAt (k * 2 + 1) (by omega)
        have e3 : ((blC (marksBl m k ++ xs.drop k)).set (k * 2) (.int .i64 (t : Int)))[k * 2 + 1]? = some (.string ((marksBl m k ++ xs.drop k).getD k bl0).2) := by
          rw [List.getElem?_set_ne (by omega)]
          exact e1
        rw [e3] at f1
        have z1 := ho3.frozenAt (k * 2 + 1)
        have hst2 := ho3.stored (k * 2 + 1) (.string (mtxt (t + 1)))
        have htt := ht.out
        rw [blC_set _ k ((t : Int), mtxt (t + 1)) (by omega), show ((t : Int), mtxt (t + 1)) = (((m + 2 * k : Nat) : Int), mtxt (m + 2 * k + 1)) by rw [← htt], marksBl_step m k xs hkx] at hst2
        have HO := Lib.hid hst2.1
        have HG := Lib.hid (grown_trans hg3 hst2.2)
        obtain ⟨u1, hu1⟩ : ∃ u1, u1 = ((marksBl m k ++ xs.drop k).getD k bl0).2 := ⟨_, rfl⟩
        rw [← hu1] at f1
        have hbk : Hid (t + 2 = m + 2 * (k + 1) ∧ t + 2 ≤ 6291456) := ⟨by omega, by omega⟩
        obtain ⟨tx, htx⟩ : ∃ tx, tx = mtxt (t + 1) := ⟨_, rfl⟩
        rw [← htx] at HO HG ⊢
        clear hu1 hst2 ho3 hg3 hb3 e1 e3 htt hlc hll hcall HO1 HG1 htx f0 z0
        go_wp2
        go_roundw
        case rel => exact ⟨k + 1, t + 2, by omega, by go_num, hbk.out.1, hbk.out.2, by go_num, HO.out, HG.out⟩
        case measure => simp [intOf]; omega
      · obtain rfl : k = n := by omega
        have hx := HX.out
        rw [List.drop_of_length_le (by omega), List.append_nil] at ho
        have HT := Lib.hid ht.out
        clear hx
        go_wp2
        go_ret
        exact ⟨ret_int (by rw [HT.out]), ho, hg⟩
set_option maxHeartbeats 2000000 in
set_option maxRecDepth 100000 in
theorem heldBlobS_any (v : Value) (m n : Nat) (w : World) (hrd : RdB w v (marksBl m n)) (hl : n ≤ 1048576) (hm : 0 < m) (hm2 : m ≤ 4194304) :
    Calls Try.prog 15 #[v, .int .i64 (m : Int)] w fun e w' => e = .returned (.int .i64 ((m + 2 * n : Nat) : Int)) ∧ Below w.heap.size w w' := by
  rcases rdB_cases hrd with ⟨h0, ao, cap, rfl⟩ | ⟨hp, b, off, cap, rfl, _, hlt, hc⟩
  · have h1 := congrArg List.length h0
    rw [marksBl_len] at h1
    simp only [List.length_nil] at h1
    subst h1
    go_enter Try.func15, Try.ntmps15
    go_wp2
    refine wp_loop_rounds 1 ?_
    rw [rounds_succ]
    go_wp2
    go_ret
    exact ⟨ret_int (by simp), Below.refl _ _⟩
  · rw [marksBl_len] at hc hp ⊢
    have HC : Hid (∀ j, j < n → w.cell? ⟨b, off + j * 2, none⟩ = some (.int .i64 ((m + 2 * j : Nat) : Int)) ∧ w.cell? ⟨b, off + j * 2 + 1, none⟩ = some (.string (mtxt (m + 2 * j + 1)))) := fun j hj => by
      have := hc j hj
      rw [marksBl_get hj] at this
      exact this
    clear hc hp hrd
    go_enter Try.func15, Try.ntmps15
    go_wp2
    go_loopw [1, 5] (fun q i wr => ∃ k t : Nat, k ≤ n ∧ q = .int .i64 t ∧ Hid (t = m + 2 * k) ∧ t ≤ 6291456 ∧ i = .int .i64 k ∧ Hid (Below w.heap.size w wr)) (fun _ i _ => n - (intOf i).toNat)
    case atStart => exact ⟨0, m, Nat.zero_le _, rfl, rfl, by omega, rfl, Below.refl _ _⟩
    case round =>
      rename World => w1
      obtain ⟨k, t, hk, rfl, ht, htb, rfl, hb⟩ := hrel
      have hs := hb.out.size
      by_cases hltk : k < n
      · obtain ⟨c0, c1⟩ := HC.out k hltk
        rw [← ht.out] at c0 c1
        have d0 := (hb.out.cell (p := ⟨b, off + k * 2, none⟩) hlt).trans c0
        have d1 := (hb.out.cell (p := ⟨b, off + k * 2 + 1, none⟩) hlt).trans c1
        have HCALL : Hid (∀ W : World, Calls Try.prog 43 #[.int .i64 ((t : Int) + 1)] W fun e w' => e = .returned (.string (mtxt (t + 1))) ∧ Below W.heap.size W w') := fun W => by
          have h := markTextB_any (t + 1) W (by have := ht.out; omega) (by omega)
          rw [show (((t + 1 : Nat)) : Int) = (t : Int) + 1 by omega] at h
          exact h
        obtain ⟨x, hxx⟩ : ∃ x, x = mtxt (t + 1) := ⟨_, rfl⟩
        have HT : Hid (x = mtxt (t + 1)) := hxx
        rw [← hxx] at d1 c1
        have HC1 := Lib.hid c1
        have hbk : Hid (t + 2 = m + 2 * (k + 1) ∧ t + 2 ≤ 6291456) := ⟨by have := ht.out; omega, by have := ht.out; omega⟩
        clear hxx c0 c1
        go_wp2
        go_region_with (go_at_call 43; refine (HCALL.out _).mono ?_; rintro e w2 ⟨rfl, hb2⟩; rw [← HT.out]; have hb3 : Below w.heap.size w w2 := hb.out.drew.trans (hb2.mono hs); have hc2 := (hb3.cell (p := ⟨b, off + k * 2 + 1, none⟩) hlt).trans HC1.out)
        all_goals
          have HB3 := Lib.hid hb3
          clear hb2 hb3 HCALL
          go_wp2
          go_roundw
          case rel => exact ⟨k + 1, t + 2, by omega, by go_num, hbk.out.1, hbk.out.2, by go_num, HB3⟩
          case measure => simp [intOf]; omega
      · obtain rfl : k = n := by omega
        have HT := Lib.hid ht.out
        go_wp2
        go_ret
        exact ⟨ret_int (by rw [HT.out]), hb.out⟩
end Go.Proofs.Ytncmeocjiinmfal
