/- CONTRACTS: spec.Numbers, impl.Numbers: the text of a list of numbers. -/
import Derived.Test.YtfoncmeplofedaqDoorNumber
namespace Go.Proofs.YtfoncmeplofedaqDoor
open Go.RowKit

abbrev okN (x : Int) : Prop := 0 ≤ x ∧ x ≤ 1099511627776
def flat (xs : List Int) : List Int := xs.flatMap fun x => enc x.toNat
/-- what Numbers tells -/
def numsB (xs : List Int) : List Int := if xs.length ≤ 200 ∧ ∀ x ∈ xs, okN x then enc xs.length ++ flat xs else []
theorem flat_snoc (xs : List Int) (x : Int) : flat (xs ++ [x]) = flat xs ++ enc x.toNat := by simp [flat]
theorem flat_len (xs : List Int) (h : ∀ x ∈ xs, okN x) : (flat xs).length ≤ 6 * xs.length := by
  induction xs with
  | nil => simp [flat]
  | cons x r ih =>
    have h1 := h x List.mem_cons_self
    have h2 := enc_len6 x.toNat (by unfold okN at h1; omega)
    have h3 := ih fun y hy => h y (List.mem_cons_of_mem _ hy)
    have e : flat (x :: r) = enc x.toNat ++ flat r := by simp [flat]
    rw [e, List.length_append, List.length_cons]; omega
theorem enc_bytes (m : Nat) : Bytes (enc m) := enc_byte m m (Nat.le_refl _)
theorem flat_bytes (xs : List Int) : Bytes (flat xs) := fun x hx => by
  obtain ⟨y, _, hy⟩ := List.mem_flatMap.1 hx
  exact enc_bytes _ x hy
theorem numsB_bad {xs : List Int} {k : Nat} (hk : k < xs.length) (h : ¬ okN (xs.getD k 0)) : numsB xs = [] := by
  unfold numsB
  rw [if_neg]
  intro hh
  have e : xs.getD k 0 = xs[k] := by simp [List.getD, hk]
  rw [e] at h
  exact h (hh.2 _ (List.getElem_mem hk))
theorem numsB_long {xs : List Int} (h : 200 < xs.length) : numsB xs = [] := by
  unfold numsB; rw [if_neg (by omega)]
theorem numsB_good {xs : List Int} (hl : xs.length ≤ 200) (h : ∀ x ∈ xs.take xs.length, okN x) : numsB xs = enc xs.length ++ flat xs := by
  unfold numsB
  rw [List.take_of_length_le (Nat.le_refl _)] at h
  rw [if_pos ⟨hl, h⟩]
theorem ok_snoc {xs : List Int} {k : Nat} (hk : k < xs.length) (h : ∀ x ∈ xs.take k, okN x) (hx : okN (xs.getD k 0)) : ∀ x ∈ xs.take (k + 1), okN x := by
  intro x hm
  rw [take_snoc xs 0 k hk] at hm
  rcases List.mem_append.1 hm with h1 | h1
  · exact h x h1
  · rw [List.mem_singleton.1 h1]; exact hx

set_option maxHeartbeats 2000000 in
set_option maxRecDepth 100000 in
theorem specNumbers_any (va : Value) (xs : List Int) (w : World) (ha : Rd w va (cellsInt64S xs)) (hl : xs.length ≤ 140737488355328) :
    Calls Tryd.prog 28 #[va] w fun e w' => e = .returned (.string (asB (numsB xs))) ∧ Below w.heap.size w w' := by
  obtain ⟨i0, hi, hz0, hz1, hz2⟩ := info_parts Tryd.infoB
  have hla : (cellsInt64S xs).length = xs.length := by simp
  obtain ⟨ao, cap, rfl, hcap, hx⟩ := ha
  rw [hla] at hcap hx ⊢
  by_cases hbig : 200 < (xs.length : Int)
  · rw [numsB_long (by omega)]
    clear hx
    go_enter Tryd.func28, Tryd.ntmps28
    go_wp2
    go_ret
    exact ⟨rfl, Below.refl _ _⟩
  · have HX : Hid (∀ j, j < xs.length → ∃ b off, ao = some ⟨b, off, none⟩ ∧ b < w.heap.size ∧ w.cell? ⟨b, off + j, none⟩ = some (.int .i64 (xs.getD j 0))) := fun j hj => by
      obtain ⟨b, off, h1, h2, h3⟩ := hx (by intro h; rw [h] at hla; simp at hla; omega)
      exact ⟨b, off, h1, h2, (h3 j hj).trans (ints_get _ xs j hj)⟩
    clear hx hla
    obtain ⟨n, hn⟩ : ∃ n, n = xs.length := ⟨_, rfl⟩
    rw [← hn] at hcap HX hl hbig ⊢
    have HN : Hid (n = xs.length) := hn
    clear hn
    go_enter Tryd.func28, Tryd.ntmps28
    go_wp2_with fail
    refine (l1Number_any n w (by omega)).mono ?_
    rintro e w1 ⟨v1, rfl, ho1, hb1⟩
    go_wp2
    go_loopw [3, 4] (fun v i wr => ∃ k : Nat, k ≤ n ∧ i = .int .i64 k ∧ wr.ownsRow w.heap.size 5 1 v (enc n ++ flat (xs.take k)).length (cellsByteS (enc n ++ flat (xs.take k))) ∧ Below w.heap.size w wr ∧ Hid (∀ x ∈ xs.take k, okN x)) (fun _ i _ => n - (intOf i).toNat)
    case atStart => exact ⟨0, Nat.zero_le _, rfl, by simpa [flat] using ho1, hb1, fun x hx => by simp at hx⟩
    case round =>
      obtain ⟨k, hk, rfl, ho, hb, hok⟩ := hrel
      clear ho1 hb1
      have hs := hb.size
      by_cases hkn : k < n
      · have hkx : k < xs.length := by rw [← HN.out]; exact hkn
        obtain ⟨b, off, rfl, hlt, hc⟩ := HX.out k hkn
        have hcw : wr.cell? ⟨b, off + k, none⟩ = some (.int .i64 (xs.getD k 0)) := (hb.cell (p := ⟨b, off + k, none⟩) hlt).trans hc
        obtain ⟨x, hxx⟩ : ∃ x, x = xs.getD k 0 := ⟨_, rfl⟩
        rw [← hxx] at hcw
        have HXX : Hid (x = xs.getD k 0) := hxx
        clear hc hxx hkx
        by_cases hx0 : 0 ≤ x
        · by_cases hx1 : x ≤ 1099511627776
          · obtain ⟨m, rfl⟩ := Int.eq_ofNat_of_zero_le hx0
            have hcl : 6 + 6 * k ≥ (enc n ++ flat (xs.take k)).length := by
              have h1 := enc_len6 n (by omega)
              have h2 := flat_len (xs.take k) hok.out
              rw [List.length_append]
              have h3 : (xs.take k).length ≤ k := List.length_take_le _ _
              omega
            obtain ⟨acc, hacc⟩ : ∃ acc, acc = enc n ++ flat (xs.take k) := ⟨_, rfl⟩
            rw [← hacc] at ho hcl
            have HACC : Hid (acc = enc n ++ flat (xs.take k)) := hacc
            clear hacc
            go_wp2_with (go_at_call 40; go_in)
            refine (l1Number_any m wr (by omega)).mono ?_
            rintro e w2 ⟨v2, rfl, ho2, hb2⟩
            obtain ⟨g, c2, rfl, hg⟩ := owns_head ho2 (enc_pos m)
            have hoa := owns_below ho hb2
            have he6 := enc_len6 m (by omega)
            have s2 := hb2.size
            go_wp2_with (at_builtin; refine wpList_append_own _ rfl _ _ 44 rfl w.heap.size 5 i0 (.int .u8 0) 1 1 Tryd.underlying44 hi hz0 hz1 hz2 rfl (by decide) _ _ _ rfl hoa ⟨g, 0, none⟩ (enc m).length c2 (cellsByteS (enc m)) rfl ?c0 ?c1 ?c2 ?c3 ?c4 ?c5 ?_)
            case c0 => simp
            case c1 => exact ho2.cells hg
            case c2 => exact ints_oneCell .u8 _
            case c3 => unfold maxLen; omega
            case c4 => omega
            case c5 => omega
            intro v3 w3 ho3 hg3 _
            have hb3 : Below w.heap.size w w3 := (hb.trans (hb2.mono hs)).grown hg3 (by omega) (fun k hk => (hoa.lt k hk).1)
            have hxs : xs.getD k 0 = (m : Int) := HXX.out.symm
            have hkx : k < xs.length := by rw [← HN.out]; exact hkn
            have e1 : acc ++ enc m = enc n ++ flat (xs.take (k + 1)) := by
              rw [take_snoc xs 0 k hkx, flat_snoc, hxs, HACC.out, List.append_assoc]
              simp
            have ho4 : w3.ownsRow w.heap.size 5 1 v3 (enc n ++ flat (xs.take (k + 1))).length (cellsByteS (enc n ++ flat (xs.take (k + 1)))) := by
              rw [← e1]
              simpa using ho3
            have hok2 : Hid (∀ x ∈ xs.take (k + 1), okN x) := ok_snoc hkx hok.out (by rw [hxs]; exact ⟨by omega, by omega⟩)
            clear e1 hxs hkx ho3 hg3 ho hoa ho2 hb2 hb hcw hok hg
            go_wp2
            go_roundw
            case rel => exact ⟨k + 1, by omega, by go_num, ho4, hb3, hok2⟩
            case measure => simp [intOf]; omega
          · go_wp2
            go_ret
            have hbad : ¬ okN (xs.getD k 0) := by rw [← HXX.out]; unfold okN; omega
            have hkx : k < xs.length := by rw [← HN.out]; exact hkn
            rw [numsB_bad hkx hbad]
            exact ⟨rfl, hb⟩
        · go_wp2
          go_ret
          have hbad : ¬ okN (xs.getD k 0) := by rw [← HXX.out]; unfold okN; omega
          have hkx : k < xs.length := by rw [← HN.out]; exact hkn
          rw [numsB_bad hkx hbad]
          exact ⟨rfl, hb⟩
      · obtain rfl : k = n := by omega
        have hn := HN.out
        have e : enc k ++ flat (xs.take k) = numsB xs := by
          have h := hok.out
          rw [hn] at h ⊢
          rw [numsB_good (by omega) h, List.take_of_length_le (Nat.le_refl _)]
        rw [e] at ho
        have hstr := str_own ho (by
          rw [← e]
          exact bytes_append (enc_bytes _) (flat_bytes _))
        clear e hn ho hok
        go_wp2
        go_ret
        exact ⟨rfl, hb⟩

end Go.Proofs.YtfoncmeplofedaqDoor
