/- CONTRACTS: Clashes of both: does any of a list clash with another one? impl's goes by a map, spec's by pairs. -/
import Derived.Test.YtfoncmeplofedaeDig
import Derived.Maps.OwnSet
import Derived.Maps.Views
import Derived.Deep.RegionWith
namespace Go.Proofs.Ytfoncmeplofedae
open Go.RowKit Go.Maps

/-- does one of the first n clash with one ahead of it? -/
def clashN (xs : List ByteArray) (n : Nat) : Bool := (List.range n).any fun i => (List.range i).any fun k => clashB (xs.getD i ByteArray.empty) (xs.getD k ByteArray.empty)
def clashesB (xs : List ByteArray) : Bool := clashN xs xs.length

theorem clashN_iff (xs : List ByteArray) (n : Nat) : clashN xs n = true ↔ ∃ i k, i < n ∧ k < i ∧ clashB (xs.getD i ByteArray.empty) (xs.getD k ByteArray.empty) = true := by
  unfold clashN
  simp only [List.any_eq_true, List.mem_range]
  constructor
  · rintro ⟨i, hi, k, hk, h⟩; exact ⟨i, k, hi, hk, h⟩
  · rintro ⟨i, k, hi, hk, h⟩; exact ⟨i, hi, k, hk, h⟩
theorem clashN_not {xs : List ByteArray} {n : Nat} (h : ∀ i k, i < n → k < i → clashB (xs.getD i ByteArray.empty) (xs.getD k ByteArray.empty) = false) : clashN xs n = false := by
  cases hc : clashN xs n with
  | false => rfl
  | true =>
    obtain ⟨i, k, hi, hk, hck⟩ := (clashN_iff xs n).1 hc
    rw [h i k hi hk] at hck
    cases hck
theorem clashesB_of {xs : List ByteArray} {i k : Nat} (hi : i < xs.length) (hk : k < i) (h : clashB (xs.getD i ByteArray.empty) (xs.getD k ByteArray.empty) = true) : clashesB xs = true :=
  (clashN_iff xs xs.length).2 ⟨i, k, hi, hk, h⟩

/-- none of the first n clashes with another one of them -/
def Calm (xs : List ByteArray) (n : Nat) : Prop := ∀ i k, i < n → k < n → digest (xs.getD i ByteArray.empty) = digest (xs.getD k ByteArray.empty) → xs.getD i ByteArray.empty = xs.getD k ByteArray.empty
theorem calm_not {xs : List ByteArray} (h : Calm xs xs.length) : clashesB xs = false :=
  clashN_not fun i k hi hk => by
    cases hc : clashB (xs.getD i ByteArray.empty) (xs.getD k ByteArray.empty) with
    | false => rfl
    | true =>
      obtain ⟨h1, h2⟩ := (clashB_iff _ _).1 hc
      exact absurd (h i k hi (by omega) h2) h1
theorem calm_step {xs : List ByteArray} {n : Nat} (h : Calm xs n) (hn : ∀ k, k < n → digest (xs.getD k ByteArray.empty) = digest (xs.getD n ByteArray.empty) → xs.getD k ByteArray.empty = xs.getD n ByteArray.empty) : Calm xs (n + 1) := by
  intro i k hi hk he
  by_cases h1 : i = n
  · subst h1
    by_cases h2 : k = i
    · subst h2; rfl
    · exact (hn k (by omega) he.symm).symm
  · by_cases h2 : k = n
    · subst h2; exact hn i (by omega) he
    · exact h i k (by omega) (by omega) he

/-- what the map holds: of each digest among the first n the place of a text of that digest -/
def Firsts (D : DataW Unit) (xs : List ByteArray) (n : Nat) : Prop :=
  ∀ d : Int, (has D (.int .i64 d) = true → ∃ j, j < n ∧ digest (xs.getD j ByteArray.empty) = d ∧ D.atKey (.int .i64 d) (.lit (.int .i64 0)) = .lit (.int .i64 (j : Int))) ∧
    (has D (.int .i64 d) = false → ∀ j, j < n → digest (xs.getD j ByteArray.empty) ≠ d)

theorem keyL {d : Int} : WideAt.IsKeyLit (.int .i64 d) := by first | trivial | simp [WideAt.IsKeyLit]
theorem ret_bool {a b : Bool} (h : a = b) : Ending.returned (.bool a) = .returned (.bool b) := by rw [h]
theorem firsts_start (xs : List ByteArray) : Firsts (.map []) xs 0 := fun d => ⟨fun h => by simp [has] at h, fun _ j hj => by omega⟩
theorem firsts_known {D : DataW Unit} {xs : List ByteArray} {n : Nat} (h : Firsts D xs n) (hk : has D (.int .i64 (digest (xs.getD n ByteArray.empty))) = true) : Firsts D xs (n + 1) := fun d => by
  refine ⟨fun hd => ?_, fun hd j hj => ?_⟩
  · obtain ⟨j, h1, h2, h3⟩ := (h d).1 hd
    exact ⟨j, by omega, h2, h3⟩
  · by_cases e : j = n
    · subst e
      intro e2
      rw [e2, hd] at hk
      cases hk
    · exact (h d).2 hd j (by omega)
theorem firsts_new {D : DataW Unit} {xs : List ByteArray} {n : Nat} (h : Firsts D xs n) (hm : IsMap D) : Firsts (D.put (.int .i64 (digest (xs.getD n ByteArray.empty))) (.lit (.int .i64 (n : Int)))) xs (n + 1) := fun d => by
  by_cases e : d = digest (xs.getD n ByteArray.empty)
  · subst e
    refine ⟨fun _ => ⟨n, by omega, rfl, ?_⟩, fun hd => ?_⟩
    · exact atKey_put_same hm keyL _ _
    · rw [has_put_same hm keyL] at hd
      cases hd
  · have hne : (Lit.int .i64 d) ≠ Lit.int .i64 (digest (xs.getD n ByteArray.empty)) := fun h2 => e (by injection h2)
    rw [has_put_other hne, atKey_put_other hne]
    refine ⟨fun hd => ?_, fun hd j hj => ?_⟩
    · obtain ⟨j, h1, h2, h3⟩ := (h d).1 hd
      exact ⟨j, by omega, h2, h3⟩
    · by_cases e3 : j = n
      · subst e3; exact fun h4 => e h4.symm
      · exact (h d).2 hd j (by omega)

theorem getD_size {xs : List ByteArray} {B : Nat} (hs : ∀ s ∈ xs, s.size ≤ B) (k : Nat) : (xs.getD k ByteArray.empty).size ≤ B := by
  by_cases hk : k < xs.length
  · have e : xs.getD k ByteArray.empty = xs[k] := by simp [List.getD, hk]
    rw [e]; exact hs _ (List.getElem_mem hk)
  · have e : xs.getD k ByteArray.empty = ByteArray.empty := by rw [List.getD, List.getElem?_eq_none (Nat.le_of_not_lt hk)]; rfl
    rw [e]; exact Nat.zero_le _

theorem lawK : Keyed Try.prog 2 := int_keyed Try.underlying2
theorem zeroE (w : World) : (zeroValue 3).run Try.prog w = .ok (.int .i64 0) w := by kernel_rfl

theorem key_wf (s : ByteArray) : (Lit.int .i64 (digest s)).wf = true := by
  have := digest_in s
  simp [Lit.wf, IntKind.min, IntKind.max, IntKind.signed, IntKind.bits]
  omega

theorem implClashes_any (va : Value) (xs : List ByteArray) (w : World) (ha : Rd w va (cellsS xs)) (hl : xs.length ≤ 1048576) (hs : ∀ s ∈ xs, s.size ≤ 9223372036854775807) :
    Calls Try.prog 20 #[va] w fun e w' => e = .returned (.bool (clashesB xs)) ∧ Below w.heap.size w w' := by
  have hla : (cellsS xs).length = xs.length := by simp
  have hmm := @run_makeMap Try.prog
  rcases rd_cases ha with ⟨h0, ao, cap, rfl⟩ | ⟨hp, b, off, cap, rfl, _, hlt, hc⟩
  · have hx : xs = [] := by simpa using h0
    subst hx
    have hb : Below w.heap.size w (w.alloc (.map #[] 0)) := (Below.refl _ _).alloc (Nat.le_refl _) _
    go_enter Try.func20, Try.ntmps20
    go_wp2
    refine wp_loop_rounds 1 ?_
    rw [rounds_succ]
    go_wp2
    go_ret
    exact ⟨rfl, hb⟩
  · rw [hla] at hc hp ⊢
    obtain ⟨n, hn⟩ : ∃ n, n = xs.length := ⟨_, rfl⟩
    rw [← hn] at hc hp hl ⊢
    have HN : Hid (n = xs.length) := hn
    have HS : Hid (∀ k, (xs.getD k ByteArray.empty).size ≤ 9223372036854775807) := getD_size hs
    have HA : Hid (∀ j, j < n → w.cell? ⟨b, off + j, none⟩ = some (.string (xs.getD j ByteArray.empty))) := fun j hj => (hc j hj).trans (strs_get xs j (by omega))
    have hb0 : Below w.heap.size w (w.alloc (.map #[] 0)) := (Below.refl _ _).alloc (Nat.le_refl _) _
    clear hc hla ha hn hs
    go_enter Try.func20, Try.ntmps20
    go_wp2
    go_loopw [12] (fun i wr => ∃ (k : Nat) (D : DataW Unit), k ≤ n ∧ i = .int .i64 k ∧ wr.ownsMap Try.prog 2 (plainElem Try.prog 3) w.heap.size k D ∧ Below w.heap.size w wr ∧ Hid (Firsts D xs k) ∧ Hid (Calm xs k)) (fun i _ => n - (intOf i).toNat)
    case atStart => exact ⟨0, .map [], Nat.zero_le _, rfl, World.ownsMap_made _ _ _ _, hb0, firsts_start xs, fun i k hi => by omega⟩
    case round =>
      obtain ⟨k, D, hk, rfl, hown, hb, hF, hC⟩ := hrel
      clear hb0
      by_cases hltk : k < n
      · have hca : wr.cell? ⟨b, off + k, none⟩ = some (.string (xs.getD k ByteArray.empty)) := (hb.cell (p := ⟨b, off + k, none⟩) hlt).trans (HA.out k hltk)
        have hsz := HS.out k
        have hkey : keyOf Try.prog 2 (.int .i64 (digest (xs.getD k ByteArray.empty))) = some (.int .i64 (digest (xs.getD k ByteArray.empty))) := keyOf_int_mk Try.underlying2 (key_wf _)
        have hF1 := hF.out (digest (xs.getD k ByteArray.empty))
        have hF2 : Hid (has D (.int .i64 (digest (xs.getD k ByteArray.empty))) = true → Firsts D xs (k + 1)) := fun h => firsts_known hF.out h
        have hF3 : Hid (Firsts (D.put (.int .i64 (digest (xs.getD k ByteArray.empty))) (.lit (.int .i64 (k : Int)))) xs (k + 1)) := firsts_new hF.out hown.isMap
        have hW : (Lit.int .i64 (k : Int)).wf = true := WalkArith.wf_i64 (by omega)
        obtain ⟨x, hxx⟩ : ∃ x, x = xs.getD k ByteArray.empty := ⟨_, rfl⟩
        have HX : Hid (x = xs.getD k ByteArray.empty) := hxx
        rw [← hxx] at hca hsz hkey hF1 hF2 hF3
        clear hxx
        cases hh : has D (.int .i64 (digest x)) with
        | true =>
          obtain ⟨j, hj, hdj, hat0⟩ := hF1.1 hh
          have hcj : wr.cell? ⟨b, off + j, none⟩ = some (.string (xs.getD j ByteArray.empty)) := (hb.cell (p := ⟨b, off + j, none⟩) hlt).trans (HA.out j (by omega))
          have HF : Hid (Firsts D xs (k + 1)) := hF2.out hh
          obtain ⟨y, hyy⟩ : ∃ y, y = xs.getD j ByteArray.empty := ⟨_, rfl⟩
          have HY : Hid (y = xs.getD j ByteArray.empty) := hyy
          rw [← hyy] at hcj hdj
          have HD : Hid (digest y = digest x) := hdj
          clear hyy hdj hF1 hF2 hF3
          by_cases hyx : y = x
          focus
            subst hyx
            have HC : Hid (Calm xs (k + 1)) := calm_step hC.out (fun i hi hd => by
              rw [← HX.out] at hd ⊢
              exact (hC.out i j hi hj (by rw [hd, ← HY.out])).trans HY.out.symm)
            clear hC hF
          rotate_left
          focus
            have hne0 : ¬ y.toList = x.toList := fun h => hyx (same_of h)
            have hne : (!y.toList == x.toList) = true := by simp [hne0]
            clear hne0
            have HE : Hid (clashesB xs = true) := clashesB_of (i := k) (k := j) (by have := HN.out; omega) hj (by
              rw [← HX.out, ← HY.out]
              exact (clashB_iff _ _).2 ⟨fun h => hyx h.symm, HD.out.symm⟩)
            clear hC hF HF
          rotate_left
          all_goals
            clear HX HY HD
            go_wp2_with fail
            refine (implDigest_any _ _ hsz).mono ?_
            rintro e w1 ⟨rfl, rfl⟩
            go_wp2_with (first
              | (at_lookup; refine wpList_lookup_own_ok_int _ rfl _ _ 72 rfl 2 3 .i64 lawK Try.underlying72 Try.underlying3 (zeroE _) _ k D rfl hown _ _ rfl hkey ?_; intro c hat hwc; rw [hh]; obtain rfl : c = (j : Int) := by (have h := hat.symm.trans hat0; simpa using h))
              | go_in)
          · go_roundw
            case rel => exact ⟨k + 1, D, by omega, by go_num, hown.mono (by omega), hb, HF, HC⟩
            case measure => simp [intOf]; omega
          · go_ret
            exact ⟨ret_bool HE.out.symm, hb⟩
        | false =>
          have hno := hF1.2 hh
          have HC : Hid (Calm xs (k + 1)) := calm_step hC.out (fun i hi hd => by
            rw [← HX.out] at hd
            exact absurd hd (hno i hi))
          clear hF1 hF2 hF hC HX hno
          go_wp2_with fail
          refine (implDigest_any x _ hsz).mono ?_
          rintro e w1 ⟨rfl, rfl⟩
          go_wp2_with (first
            | (at_lookup; refine wpList_lookup_own_ok_int _ rfl _ _ 72 rfl 2 3 .i64 lawK Try.underlying72 Try.underlying3 (zeroE _) _ k D rfl hown _ _ rfl hkey ?_; intro c hat hwc; rw [hh])
            | (at_mapUpdate; refine wpList_mapUpdate_own _ rfl _ _ _ 72 rfl 2 3 lawK Try.underlying72 _ _ k _ rfl hown (by unfold maxLen; omega) _ _ _ rfl rfl hkey _ [] (plainElem_int Try.underlying3 hW) ?_; intro w2 hown2 hgrow2)
            | go_in)
          go_roundw
          case rel => exact ⟨k + 1, _, by omega, by go_num, hown2, hb.grown hgrow2 hb.size (fun j hj => by cases hj; exact Nat.le_refl _), hF3, HC⟩
          case measure => simp [intOf]; omega
      · obtain rfl : k = n := by omega
        have hCN := hC.out
        rw [HN.out] at hCN
        have HE : Hid (clashesB xs = false) := calm_not hCN
        clear hCN hF hC hown
        go_wp2
        go_ret
        exact ⟨ret_bool HE.out.symm, hb⟩

set_option maxHeartbeats 1000000 in
theorem specClashes_any (va : Value) (xs : List ByteArray) (w : World) (ha : Rd w va (cellsS xs)) (hl : xs.length ≤ 1048576) (hs : ∀ s ∈ xs, s.size ≤ 9223372036854775807) :
    Calls Try.prog 19 #[va] w fun e w' => e = .returned (.bool (clashesB xs)) ∧ Below w.heap.size w w' := by
  have hla : (cellsS xs).length = xs.length := by simp
  rcases rd_cases ha with ⟨h0, ao, cap, rfl⟩ | ⟨hp, b, off, cap, rfl, _, hlt, hc⟩
  · have hx : xs = [] := by simpa using h0
    subst hx
    go_enter Try.func19, Try.ntmps19
    go_wp2
    refine wp_loop_rounds 1 ?_
    rw [rounds_succ]
    go_wp2
    go_ret
    exact ⟨rfl, Below.refl _ _⟩
  · rw [hla] at hc hp ⊢
    obtain ⟨n, hn⟩ : ∃ n, n = xs.length := ⟨_, rfl⟩
    rw [← hn] at hc hp hl ⊢
    have HN : Hid (n = xs.length) := hn
    have HS : Hid (∀ k, (xs.getD k ByteArray.empty).size ≤ 9223372036854775807) := getD_size hs
    have HA : Hid (∀ j, j < n → w.cell? ⟨b, off + j, none⟩ = some (.string (xs.getD j ByteArray.empty))) := fun j hj => (hc j hj).trans (strs_get xs j (by omega))
    clear hc hla ha hn hs
    go_enter Try.func19, Try.ntmps19
    go_wp2
    go_loopw [3] (fun i wr => ∃ k : Nat, k ≤ n ∧ i = .int .i64 k ∧ Below w.heap.size w wr ∧ Hid (∀ i k', i < k → k' < i → clashB (xs.getD i ByteArray.empty) (xs.getD k' ByteArray.empty) = false)) (fun i _ => n - (intOf i).toNat)
    case atStart => exact ⟨0, Nat.zero_le _, rfl, Below.refl _ _, fun i k hi => by omega⟩
    case round =>
      obtain ⟨k, hk, rfl, hb, hC⟩ := hrel
      by_cases hltk : k < n
      · go_wp2
        go_loopw [4] (fun i wr2 => ∃ q : Nat, q ≤ k ∧ i = .int .i64 q ∧ Below w.heap.size w wr2 ∧ Hid (∀ k', k' < q → clashB (xs.getD k ByteArray.empty) (xs.getD k' ByteArray.empty) = false)) (fun i _ => k - (intOf i).toNat)
        case atStart => exact ⟨0, Nat.zero_le _, rfl, hb, fun k' hi => by omega⟩
        case round =>
          obtain ⟨q, hq, rfl, hb2, hC2⟩ := hrel
          clear hb
          by_cases hltq : q < k
          · have hca : ∀ W : World, Below w.heap.size w W → W.cell? ⟨b, off + k, none⟩ = some (.string (xs.getD k ByteArray.empty)) := fun W h => (h.cell (p := ⟨b, off + k, none⟩) hlt).trans (HA.out k hltk)
            have hcb : ∀ W : World, Below w.heap.size w W → W.cell? ⟨b, off + q, none⟩ = some (.string (xs.getD q ByteArray.empty)) := fun W h => (h.cell (p := ⟨b, off + q, none⟩) hlt).trans (HA.out q (by omega))
            have hca2 := hca _ hb2
            have hcb2 := hcb _ hb2
            have hqn : q < n := by omega
            have hsa := HS.out k
            have hsb := HS.out q
            clear hca hcb
            cases hcl : clashB (xs.getD k ByteArray.empty) (xs.getD q ByteArray.empty)
            rotate_left
            focus
              have HE : Hid (clashesB xs = true) := clashesB_of (i := k) (k := q) (by have := HN.out; omega) hltq hcl
              clear hC hC2
            rotate_left
            focus
              have HC3 : Hid (∀ k', k' < q + 1 → clashB (xs.getD k ByteArray.empty) (xs.getD k' ByteArray.empty) = false) := fun k' hk' => by
                by_cases e : k' = q
                · rw [e]; exact hcl
                · exact hC2.out k' (by omega)
              clear hC2
            all_goals
              obtain ⟨r, hr⟩ : ∃ r, r = clashB (xs.getD k ByteArray.empty) (xs.getD q ByteArray.empty) := ⟨_, rfl⟩
              have HCL : Hid (clashB (xs.getD k ByteArray.empty) (xs.getD q ByteArray.empty) = r) := hr.symm
              rw [hcl] at hr
              subst hr
              obtain ⟨x, hxx⟩ : ∃ x, x = xs.getD k ByteArray.empty := ⟨_, rfl⟩
              obtain ⟨y, hyy⟩ : ∃ y, y = xs.getD q ByteArray.empty := ⟨_, rfl⟩
              rw [← hxx] at hca2 hsa HCL
              rw [← hyy] at hcb2 hsb HCL
              clear hxx hyy hcl
              go_wp2
              go_quiet (first | (go_at_call 46; exact Calls.quiet_of_same (specClash_any x y _ hsa hsb)))
              rw [HCL.out]
            all_goals go_wp2
            · go_roundw
              case rel => exact ⟨q + 1, by omega, by go_num, below_drewN hb2 _, HC3⟩
              case measure => simp [intOf]; omega
            · go_ret
              exact ⟨ret_bool HE.out.symm, below_drewN hb2 _⟩
          · obtain rfl : q = k := by omega
            have HC3 : Hid (∀ i k', i < q + 1 → k' < i → clashB (xs.getD i ByteArray.empty) (xs.getD k' ByteArray.empty) = false) := fun i k' hi hk' => by
              by_cases e : i = q
              · subst e; exact hC2.out k' hk'
              · exact hC.out i k' (by omega) hk'
            clear hC hC2
            go_wp2
            go_roundw
            case rel => exact ⟨q + 1, by omega, by go_num, hb2, HC3⟩
            case measure => simp [intOf]; omega
      · obtain rfl : k = n := by omega
        have hCN := hC.out
        rw [HN.out] at hCN
        have HE : Hid (clashesB xs = false) := clashN_not hCN
        clear hCN hC
        go_wp2
        go_ret
        exact ⟨ret_bool HE.out.symm, hb⟩

end Go.Proofs.Ytfoncmeplofedae
