/- FnAnyOrder: texts that do not clash make the same store in any order, and twice as once. For every code, without a condition. -/
import Derived.Test.YtfoncmeplofedaeDrawsD
import Derived.Test.YtfoncmeplofedaePutI
import Derived.Test.YtfoncmeplofedaeBlobE
import Derived.Test.YtfoncmeplofedaeArgs
namespace Go.Proofs.Ytfoncmeplofedae.fnAnyOrder
open Go.ChangeShapes Go.WideShapes Go.ChangeAt Go.RowKit
set_option linter.unusedVariables false

/-- the store holds just these texts -/
def MemP (a : List Bl) (S : List ByteArray) : Prop := storeB a = true ∧ a.length ≤ S.length ∧ ∀ p, p ∈ a ↔ ∃ t ∈ S, p = (digest t, t)
theorem mem_start : MemP [] [] := ⟨rfl, Nat.le_refl _, fun p => ⟨fun h => absurd h List.not_mem_nil, fun ⟨t, h, _⟩ => absurd h List.not_mem_nil⟩⟩
theorem mem_find {a : List Bl} {S : List ByteArray} {s : ByteArray} (h : MemP a S) (hs : s ∈ S) : findB a (digest s) = some (digest s, s) :=
  findB_mem (p := (digest s, s)) (storeB_iff.1 h.1).2.2 ((h.2.2 _).2 ⟨s, hs, rfl⟩)
theorem mem_again {a : List Bl} {S : List ByteArray} {s : ByteArray} (h : MemP a S) (hs : s ∈ S) : putI a s = (a, digest s, 1) := by
  unfold putI
  rw [if_pos h.1, mem_find h hs]
  simp only [if_true]
theorem mem_put {a : List Bl} {S : List ByteArray} {s : ByteArray} (h : MemP a S) (hc : ∀ t ∈ S, digest t = digest s → t = s) (hs : s.size ≤ 2000) (hl : S.length < 300) : MemP (putI a s).1 (S ++ [s]) := by
  by_cases hm : s ∈ S
  · rw [mem_again h hm]
    refine ⟨h.1, by rw [List.length_append]; have := h.2.1; simp only; omega, fun p => (h.2.2 p).trans ⟨fun ⟨t, ht, e⟩ => ⟨t, by simp [ht], e⟩, fun ⟨t, ht, e⟩ => ?_⟩⟩
    rcases List.mem_append.1 ht with ht | ht
    · exact ⟨t, ht, e⟩
    · rw [List.mem_singleton.1 ht] at e; exact ⟨s, hm, e⟩
  · have hn : findB a (digest s) = none := findB_none.2 fun p hp e => by
      obtain ⟨t, ht, rfl⟩ := (h.2.2 p).1 hp
      exact hm (hc t ht e ▸ ht)
    have hal : a.length ≠ 300 := by have := h.2.1; omega
    have e : putI a s = (insB a (digest s, s), digest s, 0) := by
      unfold putI
      rw [if_pos h.1, hn]
      simp only
      rw [if_neg hal, if_neg (by omega)]
    have e2 : putT a s = putI a s := (putI_same fun _ _ => ⟨hn, hal⟩).symm
    have hok := (put_ok (s := s) h.1 (by rw [e2, e]; exact Or.inl rfl)).1
    rw [e2, e] at hok
    rw [e]
    refine ⟨hok, by rw [insB_len (p := (digest s, s)) (findB_none.1 hn), List.length_append, List.length_singleton]; have := h.2.1; omega, fun p => (insB_mem (p := (digest s, s)) (findB_none.1 hn)).trans ⟨fun hp => ?_, fun ⟨t, ht, e⟩ => ?_⟩⟩
    · rcases hp with hp | hp
      · exact ⟨s, by simp, hp⟩
      · obtain ⟨t, ht, e⟩ := (h.2.2 p).1 hp
        exact ⟨t, by simp [ht], e⟩
    · rcases List.mem_append.1 ht with ht | ht
      · exact Or.inr ((h.2.2 p).2 ⟨t, ht, e⟩)
      · rw [List.mem_singleton.1 ht] at e; exact Or.inl e
theorem mem_same {a b : List Bl} {S T : List ByteArray} (h : MemP a S) (k : MemP b T) (e : ∀ t, t ∈ S ↔ t ∈ T) : a = b :=
  rise_same (storeB_iff.1 h.1).2.2 (storeB_iff.1 k.1).2.2 fun p => (h.2.2 p).trans (Iff.trans ⟨fun ⟨t, ht, e1⟩ => ⟨t, (e t).1 ht, e1⟩, fun ⟨t, ht, e1⟩ => ⟨t, (e t).2 ht, e1⟩⟩ (k.2.2 p).symm)
theorem calm_all {l : List ByteArray} (h : clashesB l = false) {i j : Nat} (hi : i < l.length) (hj : j < l.length) (e : digest (l.getD i ByteArray.empty) = digest (l.getD j ByteArray.empty)) : l.getD i ByteArray.empty = l.getD j ByteArray.empty := by
  rcases Nat.lt_trichotomy i j with g | g | g
  · by_cases hx : l.getD i ByteArray.empty = l.getD j ByteArray.empty
    · exact hx
    · rw [clashesB_of hj g ((clashB_iff _ _).2 ⟨fun h => hx h.symm, e.symm⟩)] at h
      cases h
  · rw [g]
  · by_cases hx : l.getD i ByteArray.empty = l.getD j ByteArray.empty
    · exact hx
    · rw [clashesB_of hi g ((clashB_iff _ _).2 ⟨hx, e⟩)] at h
      cases h
theorem take_mem {l : List ByteArray} {k : Nat} {t : ByteArray} (h : t ∈ l.take k) : ∃ i, i < l.length ∧ t = l.getD i ByteArray.empty := by
  obtain ⟨i, hi, e⟩ := List.getElem_of_mem (List.mem_of_mem_take h)
  exact ⟨i, hi, by simp [List.getD, hi, e]⟩
theorem rev_mem {l : List ByteArray} {k : Nat} {t : ByteArray} (h : t ∈ l.reverse.take k) : ∃ i, i < l.length ∧ t = l.getD i ByteArray.empty := by
  obtain ⟨i, hi, e⟩ := List.getElem_of_mem (List.mem_reverse.1 (List.mem_of_mem_take h))
  exact ⟨i, hi, by simp [List.getD, hi, e]⟩
theorem take_more {l : List ByteArray} {k : Nat} (h : k < l.length) : l.take (k + 1) = l.take k ++ [l.getD k ByteArray.empty] := by
  rw [List.take_succ_eq_append_getElem h]
  simp [List.getD, h]
theorem rev_more {l : List ByteArray} {k j : Nat} (h : k < l.length) (hj : k + j + 1 = l.length) : l.reverse.take (k + 1) = l.reverse.take k ++ [l.getD j ByteArray.empty] := by
  have h2 : k < l.reverse.length := by rw [List.length_reverse]; exact h
  have hjl : j < l.length := by omega
  rw [List.take_succ_eq_append_getElem h2, List.getElem_reverse]
  have e : l.length - 1 - k = j := by omega
  simp [List.getD, hjl, e]
theorem rdB_nil (w : World) (ao : Option Addr) (cap : Nat) : RdB w (.slice ao 0 cap) [] := ⟨ao, cap, rfl, Nat.zero_le _, fun h => absurd rfl h⟩
set_option maxHeartbeats 1000000 in
set_option maxRecDepth 100000 in
theorem walk (va : Value) (bs : List Int) (w : World) (ha : Rd w va (cellsByteS bs)) (hz : Bytes bs) (hlen : bs.length ≤ 9223372036854775807) :
    Calls Try.prog 5 #[va] w fun e w' => e = .returned (.bool true) ∧ Below w.heap.size w w' := by
  by_cases hbig : 4096 < (bs.length : Int)
  · obtain ⟨ao, cap, rfl, _, _⟩ := ha
    have hla : (cellsByteS bs).length = bs.length := by simp
    rw [hla]
    go_enter Try.func5, Try.ntmps5
    go_wp2
    go_ret
    exact ⟨rfl, Below.refl _ _⟩
  · have hl : bs.length ≤ 4096 := by omega
    have hbg : Calls Try.prog 6 #[va] w fun e w' => e = .returned (.bool false) ∧ w' = w := by
      obtain ⟨ao, cap, rfl, _, _⟩ := ha
      have hla : (cellsByteS bs).length = bs.length := by simp
      rw [hla]
      go_enter Try.func6, Try.ntmps6
      go_wp2
      go_ret
      exact ⟨by simp, rfl⟩
    go_enter Try.func5, Try.ntmps5
    go_wp2_with fail
    refine hbg.mono ?_
    rintro e w' ⟨rfl, rfl⟩
    go_wp2_with fail
    refine (drawClashes_any va bs _ ha hl hz).mono ?_
    rintro e w3 ⟨vl, l, rfl, hll, hall, hrl, hb3⟩
    clear ha hbg hbig hz hlen hl
    have HS : Hid (∀ s ∈ l, s.size ≤ 9223372036854775807) := fun s hs => by have := hall s hs; omega
    have HK : Hid (∀ k, (l.getD k ByteArray.empty).size ≤ 9) := getD_size hall
    have hcs := specClashes_any vl l w3 hrl (by omega) HS.out
    have HCI : Hid (∀ w', Below w3.heap.size w3 w' → Calls Try.prog 20 #[vl] w' fun e w'' => e = .returned (.bool (clashesB l)) ∧ Below w'.heap.size w' w'') := fun w' h => implClashes_any vl l w' (rd_below hrl h) (by omega) HS.out
    have hla : (cellsS l).length = l.length := by simp
    have HX : Hid (0 < l.length → ∃ b off cap, vl = .slice (some ⟨b, off, none⟩) l.length cap ∧ b < w3.heap.size ∧ ∀ j, j < l.length → w3.cell? ⟨b, off + j, none⟩ = some (.string (l.getD j ByteArray.empty))) := fun hp => by
      obtain ⟨ao, cap, hv, hcap, hx⟩ := hrl
      rw [hla] at hv hcap hx
      obtain ⟨b, off, h1, h3, h2⟩ := hx (by intro e; have := congrArg List.length e; rw [hla] at this; simp at this; rw [this] at hp; simp at hp)
      subst h1
      exact ⟨b, off, cap, hv, h3, fun j hj => (h2 j hj).trans (strs_get l j hj)⟩
    have HVL : Hid (∃ ao cap, vl = .slice ao l.length cap) := by
      obtain ⟨ao, cap, hv, _⟩ := hrl
      rw [hla] at hv
      exact ⟨ao, cap, hv⟩
    cases hcl : clashesB l with
    | true =>
      rw [hcl] at hcs HCI
      go_wp2_with fail
      refine hcs.mono ?_
      rintro e w4 ⟨rfl, hb4⟩
      have hcall := HCI.out w4 hb4
      clear hcs
      go_wp2_with fail
      refine hcall.mono ?_
      rintro e w5 ⟨rfl, hb5⟩
      have hB := (hb3.trans (hb4.mono hb3.size))
      have hB5 := hB.trans (hb5.mono hB.size)
      clear hcall
      go_wp2
      go_ret
      exact ⟨rfl, hB5⟩
    | false =>
      rw [hcl] at hcs HCI
      have HCALM : Hid (∀ i j, i < l.length → j < l.length → digest (l.getD i ByteArray.empty) = digest (l.getD j ByteArray.empty) → l.getD i ByteArray.empty = l.getD j ByteArray.empty) := fun i j hi hj e => calm_all hcl hi hj e
      have HM1 : Hid (∀ k A, k < l.length → MemP A (l.take k) → MemP (putI A (l.getD k ByteArray.empty)).1 (l.take (k + 1))) := fun k A hk h => by
        rw [take_more hk]
        refine mem_put h (fun t ht e => ?_) (by have := HK.out k; omega) (by rw [List.length_take]; omega)
        obtain ⟨i, hi, rfl⟩ := take_mem ht
        exact HCALM.out i k hi hk e
      have HM2 : Hid (∀ k j A, k < l.length → k + j + 1 = l.length → MemP A (l.reverse.take k) → MemP (putI A (l.getD j ByteArray.empty)).1 (l.reverse.take (k + 1))) := fun k j A hk hj h => by
        rw [rev_more hk hj]
        refine mem_put h (fun t ht e => ?_) (by have := HK.out j; omega) (by rw [List.length_take, List.length_reverse]; omega)
        obtain ⟨i, hi, rfl⟩ := rev_mem ht
        exact HCALM.out i j hi (by omega) e
      have HSM1 : Hid (∀ k A, MemP A (l.take k) → A.length ≤ 10 ∧ ∀ p ∈ A, p.2.size ≤ 1048576) := fun k A h => ⟨by have := h.2.1; rw [List.length_take] at this; omega, fun p hp => by
        obtain ⟨t, ht, rfl⟩ := (h.2.2 p).1 hp
        obtain ⟨i, hi, rfl⟩ := take_mem ht
        have := HK.out i
        show (l.getD i ByteArray.empty).size ≤ _
        omega⟩
      have HSM2 : Hid (∀ k A, MemP A (l.reverse.take k) → A.length ≤ 10 ∧ ∀ p ∈ A, p.2.size ≤ 1048576) := fun k A h => ⟨by have := h.2.1; rw [List.length_take, List.length_reverse] at this; omega, fun p hp => by
        obtain ⟨t, ht, rfl⟩ := (h.2.2 p).1 hp
        obtain ⟨i, hi, rfl⟩ := rev_mem ht
        have := HK.out i
        show (l.getD i ByteArray.empty).size ≤ _
        omega⟩
      have HAG : Hid (∀ k A, k < l.length → MemP A (l.take l.length) → putI A (l.getD k ByteArray.empty) = (A, digest (l.getD k ByteArray.empty), 1)) := fun k A hk h => mem_again h (by
        rw [List.take_length]
        have e : l.getD k ByteArray.empty = l[k] := by simp [List.getD, hk]
        rw [e]
        exact List.getElem_mem hk)
      have HSAME : Hid (∀ A B, MemP A (l.take l.length) → MemP B (l.reverse.take l.length) → A = B) := fun A B h k => mem_same h k fun t => by
        rw [List.take_length, List.take_of_length_le (by rw [List.length_reverse]; exact Nat.le_refl _), List.mem_reverse]
      have HZ1 : Hid (MemP [] (l.take 0)) := mem_start
      have HZ2 : Hid (MemP [] (l.reverse.take 0)) := mem_start
      clear hcl HCALM hrl hla HS hall
      obtain ⟨n, hn⟩ : ∃ n, n = l.length := ⟨_, rfl⟩
      rw [← hn] at hll HX HVL HM1 HM2 HAG HSAME
      clear hn
      obtain ⟨aol, capl, rfl⟩ := HVL.out
      clear HVL
      go_wp2_with fail
      refine hcs.mono ?_
      rintro e w4 ⟨rfl, hb4⟩
      have HB3 := Lib.hid hb3
      have hs3 := hb3.size
      have hs4 := hb4.size
      have hb5 : Below w3.heap.size w3 ((w4.alloc (.cells #[] 76)).alloc (.cells #[] 76)) := (hb4.alloc hb4.size _).alloc (by rw [World.size_alloc]; omega) _
      clear hcs hb4 hb3
      go_wp2
      go_loopw [4, 5, 6] (fun va vb i wr => ∃ (k : Nat) (A B : List Bl), k ≤ n ∧ i = .int .i64 k ∧ RdB wr va A ∧ RdB wr vb B ∧ Hid (MemP A (l.take k)) ∧ Hid (MemP B (l.reverse.take k)) ∧ Below w3.heap.size w3 wr) (fun _ _ i _ => n - (intOf i).toNat)
      case atStart => exact ⟨0, [], [], Nat.zero_le _, rfl, rdB_nil _ _ _, rdB_nil _ _ _, HZ1.out, HZ2.out, hb5⟩
      case round =>
        rename World => wr
        obtain ⟨k, A, B, hk, rfl, hra, hrb, hma, hmb, hb⟩ := hrel
        clear hb5
        by_cases hltk : k < n
        focus
          obtain ⟨b, off, cap, hv, hlt, hc⟩ := HX.out (by omega)
          simp only [Value.slice.injEq, true_and] at hv
          obtain ⟨rfl, rfl⟩ := hv
          obtain ⟨j, hj⟩ : ∃ j : Nat, (n : Int) - 1 - (k : Int) = (j : Int) := ⟨n - 1 - k, by omega⟩
          have hjn : j < n := by omega
          have c0 := (hb.cell (p := ⟨b, off + k, none⟩) hlt).trans (hc k hltk)
          have hma2 := Lib.hid (HM1.out k A hltk hma.out)
          have hmb2 := Lib.hid (HM2.out k j B hltk (by omega) hmb.out)
          have hk9 := HK.out k
          have hj9 := HK.out j
          obtain ⟨sa1, sa2⟩ := HSM1.out k A hma.out
          obtain ⟨sb1, sb2⟩ := HSM2.out k B hmb.out
          have HCJ : Hid (∀ w', Below w3.heap.size w3 w' → w'.cell? ⟨b, off + j, none⟩ = some (.string (l.getD j ByteArray.empty))) := fun w' h => (h.cell (p := ⟨b, off + j, none⟩) hlt).trans (hc j hjn)
          obtain ⟨x, hx⟩ : ∃ x, x = l.getD k ByteArray.empty := ⟨_, rfl⟩
          obtain ⟨y, hy⟩ : ∃ y, y = l.getD j ByteArray.empty := ⟨_, rfl⟩
          rw [← hx] at c0 hma2 hk9
          rw [← hy] at HCJ hmb2 hj9
          clear hx hy hc
          have hcall := implPut_any _ A x wr hra (by omega) sa2 (by omega)
          obtain ⟨R, hR⟩ : ∃ R, R = putI A x := ⟨_, rfl⟩
          rw [← hR] at hcall hma2
          obtain ⟨R1, R2, R3⟩ := R
          simp only at hcall hma2
          have hs1 := hb.size
          clear hR hma hmb hra sa1 sa2
          go_wp2_with fail
          refine hcall.mono ?_
          rintro e w6 ⟨v6, rfl, ho6, hb6⟩
          have hB6 := hb.trans (hb6.mono hs1)
          have hrb6 := rdB_below hrb hb6
          have hra6 := rdB_owns ho6
          have c1 := HCJ.out w6 hB6
          have hcall2 := implPut_any _ B y w6 hrb6 (by omega) sb2 (by omega)
          obtain ⟨R, hR⟩ : ∃ R, R = putI B y := ⟨_, rfl⟩
          rw [← hR] at hcall2 hmb2
          obtain ⟨Q1, Q2, Q3⟩ := R
          simp only at hcall2 hmb2
          clear hR hcall hb6 ho6 hrb hrb6 hb c0 sb1 sb2 HCJ
          go_wp2_with fail
          refine hcall2.mono ?_
          rintro e w7 ⟨v7, rfl, ho7, hb7⟩
          have hB7 := hB6.trans (hb7.mono hB6.size)
          have hra7 := rdB_below hra6 hb7
          have hrb7 := rdB_owns ho7
          clear hcall2 hb7 ho7 hra6 hB6 c1
          go_wp2
          go_roundw
          case rel => exact ⟨k + 1, R1, Q1, by omega, by go_num, hra7, hrb7, hma2, hmb2, hB7⟩
          case measure => simp [intOf]; omega
        obtain rfl : k = n := by omega
        have hAB := HSAME.out A B hma.out hmb.out
        subst hAB
        have HSA := Lib.hid hma.out.1
        obtain ⟨sa1, sa2⟩ := HSM1.out k A hma.out
        have HAGA := Lib.hid (fun i (hi : i < k) => HAG.out i A hi hma.out)
        have hne1 : ∀ i, (digest (l.getD i ByteArray.empty) != digest (l.getD i ByteArray.empty)) = false := fun i => by simp
        clear hma hmb HAG HSAME HM1 HM2 HSM1 HSM2 HZ1 HZ2
        go_wp2
        go_loopw [13] (fun i w5 => ∃ (j : Nat), j ≤ k ∧ i = .int .i64 j ∧ Below wr.heap.size wr w5) (fun i _ => k - (intOf i).toNat)
        case atStart => exact ⟨0, Nat.zero_le _, rfl, Below.refl _ _⟩
        case round =>
          rename World => w5
          obtain ⟨j, hj, rfl, hb5⟩ := hrel
          have hB5 := hb.trans (hb5.mono hb.size)
          by_cases hltj : j < k
          focus
            obtain ⟨b, off, cap, hv, hlt, hc⟩ := HX.out (by omega)
            simp only [Value.slice.injEq, true_and] at hv
            obtain ⟨rfl, rfl⟩ := hv
            have HCJ : Hid (∀ w', Below w3.heap.size w3 w' → w'.cell? ⟨b, off + j, none⟩ = some (.string (l.getD j ByteArray.empty))) := fun w' h => (h.cell (p := ⟨b, off + j, none⟩) hlt).trans (hc j hltj)
            have c0 := HCJ.out w5 hB5
            have hk9 := HK.out j
            have hag := HAGA.out j hltj
            have hne := hne1 j
            have hra5 := rdB_below hra hb5
            obtain ⟨x, hx⟩ : ∃ x, x = l.getD j ByteArray.empty := ⟨_, rfl⟩
            rw [← hx] at c0 hag hk9 HCJ hne
            have hcall := implPut_any _ A x w5 hra5 (by omega) sa2 (by omega)
            rw [hag] at hcall
            simp only at hcall
            have hs1 := hb5.size
            clear hx hc hag hne1
            go_wp2_with fail
            refine hcall.mono ?_
            rintro e w6 ⟨v6, rfl, ho6, hb6⟩
            have hb7 := hb5.trans (hb6.mono hs1)
            have c1 := HCJ.out w6 (hb.trans (hb7.mono hb.size))
            have hra6 := rdB_below hra hb7
            have hrv6 := rdB_owns ho6
            have hz7 := hb7.size
            clear hcall hb6 ho6 hra5 c0 hb5 hB5 HCJ
            obtain ⟨D, hD⟩ : ∃ D, D = digest x := ⟨_, rfl⟩
            have HD : Hid (digest x = D) := hD.symm
            rw [← hD] at hne
            rw [← hD]
            clear hD
            go_wp2_with fail
            refine (specDigest_any x _ (by omega)).mono ?_
            rintro e w8 ⟨rfl, rfl⟩
            rw [HD.out]
            go_wp2_with fail
            refine (likeBlobs_any v6 _ A A _ hrv6 hra6 (by omega) (by omega)).mono ?_
            rintro e w9 ⟨rfl, hb9⟩
            rw [decide_eq_true rfl]
            have hb10 := hb7.trans (hb9.mono hz7)
            clear hb9 hb7 hrv6 hra6 c1
            go_wp2
            go_roundw
            case rel => exact ⟨j + 1, by omega, by go_num, hb10⟩
            case measure => simp [intOf]; omega
          have hra5 := rdB_below hra hb5
          have hrb5 := rdB_below hrb hb5
          have hltJ : ¬ (j : Int) < (k : Int) := by omega
          clear hra hrb HAGA hne1
          go_wp2_with fail
          refine (likeBlobs_any _ _ A A _ hra5 hrb5 (by omega) (by omega)).mono ?_
          rintro e w9 ⟨rfl, hb9⟩
          rw [decide_eq_true rfl]
          have hB9 := hB5.trans (hb9.mono hB5.size)
          have hra9 := rdB_below hra5 hb9
          have hcall := implStoreOk_any _ A _ hra9 (by omega) sa2
          rw [HSA.out] at hcall
          clear hb9 hra5 hrb5
          go_wp2_with fail
          refine hcall.mono ?_
          rintro e w10 ⟨rfl, hb10⟩
          have hB10 := hB9.trans (hb10.mono hB9.size)
          have hcall2 := HCI.out w10 hB10
          clear hcall hb10
          go_wp2_with fail
          refine hcall2.mono ?_
          rintro e w11 ⟨rfl, hb11⟩
          have hB11 := Lib.hid (HB3.out.trans ((hB10.trans (hb11.mono hB10.size)).mono HB3.out.size))
          clear hcall2 hb11
          go_wp2
          go_ret
          exact ⟨rfl, hB11.out⟩
set_option maxRecDepth 100000 in
theorem lifted (os : Os) (started : os.Started) (H : Type) (enc : TypeId × Value → H) :
    ReturnsInHanded {} Try.checked os 5 .any (Rows.fnAnyOrderSpec.pre6 enc Try.prog Try.f5 Rows.fnAnyOrderRow.domain false) (Rows.fnAnyOrderSpec.post enc Try.prog Try.f5 false true false false) := by
  refine returnsInHanded_of_change (C := Try.checked) own started (by kernel_rfl) Try.func5
    (ChangeSpec.witness6 (enc := enc) (C := Try.checked) false ⟨#[], #[.slice none 0 0], []⟩ 8 (by kernel_rfl) (by kernel_rfl) (by kernel_rfl) (by kernel_rfl)) ?_
  intro W base args ds gs before hval0 hW hcnd _
  have hval : ∀ (j : Nat) t v, Try.f5.params[j]? = some t → args[j]? = some v → Value.okWide Try.prog W .any base t v := hval0
  have hW' := hW
  obtain ⟨p, q, hA0, hV, rfl, hfz, hnd⟩ := hW
  have hA : DataW.TrodAll enc Try.prog W 0 (fun _ => true) true Try.f5.params.toList args.toList ds p := hA0
  rw [Try.params5] at hA hval
  obtain ⟨v0, vs0, d0, ds0, p0, q0, hargs0, rfl, rfl, h0, r0⟩ := trodAll_cons hA
  obtain ⟨rfl, rfl, rfl⟩ := trodAll_nil r0
  obtain rfl : args = #[v0] := by cases args; simp_all
  obtain ⟨rfl, rfl⟩ := trodVars_none hV
  obtain ⟨a0, len0, cap0, rfl⟩ := okWide_slice Try.underlying22 (hval 0 22 v0 rfl rfl)
  have k0 := h0
  have lt0 : ∀ x ∈ p0, x.block < W.heap.size := by obtain ⟨m, hm⟩ := k0; exact DataW.trod_lt m _ _ _ hm
  obtain ⟨zs0, hr0, hs0⟩ : ∃ zs : List Int, Rd W (.slice a0 len0 cap0) (zs.map (Value.int .u8)) ∧ ((∀ n ∈ zs, (Lit.int .u8 n).wf = true) ∧ zs.length ≤ 9223372036854775807) := by
    obtain ⟨fuel, hf⟩ := h0
    rcases open_ints Try.underlying22 Try.underlying5 (by kernel_rfl) hf with ⟨hcs, _⟩ | ⟨x, l, c, zs, hcs, _, hl, hm, hz, _, hcell, hwz⟩
    · simp [Value.cells] at hcs
      obtain ⟨rfl, rfl, rfl⟩ := hcs
      exact ⟨[], ⟨none, 0, rfl, Nat.le_refl _, fun h => absurd rfl h⟩, (fun x hx => absurd hx List.not_mem_nil), Nat.zero_le _⟩
    · simp [Value.cells] at hcs
      obtain ⟨rfl, rfl, rfl⟩ := hcs
      exact arg_ints .u8 hl hm (by simpa using hz) hcell hwz
  clear hA0 hval0
  refine (walk _ zs0 W hr0 (wf_bytes hs0.1) hs0.2).mono fun e W' ⟨he, bel⟩ => ?_
  subst he
  exact ⟨_, rfl, _, _, _, [], _, [], hW', trodAll_mk1 (shut_bool Try.underlying4 _), (trodAll_cons_mk (Below.trod laidOut (by kernel_rfl) (of_decide_eq_true (by kernel_rfl)) k0 bel lt0) trodAll_mk0), rfl, bel.frame _, fun h => by cases h⟩

theorem over : Rows.fnAnyOrderRow.holds Try.pinned (OpenSpec.ofChange Rows.fnAnyOrderSpec) :=
  OpenClaim.holds_of_wide 5 Try.f5 rfl rfl rfl rfl rfl rfl rfl ⟨rfl, rfl, rfl, rfl, rfl⟩ rfl rfl rfl rfl rfl (by kernel_rfl) Try.func5 (by kernel_rfl)
    (of_decide_eq_true (by kernel_rfl)) (by unfold Func.isWrapper; first | (rw [if_pos (by decide +kernel)]; kernel_rfl) | (rw [if_neg (by decide +kernel)]; exact ⟨rfl, rfl⟩))
    (fun os started H enc _ => lifted os started H enc)

theorem proved : Rows.FnAnyOrderSaid := over
end Go.Proofs.Ytfoncmeplofedae.fnAnyOrder
