/- CONTRACTS: the program's Decoded. -/
import Derived.Test.YtiflpnmkclcimabDecodedS
import Derived.Test.YtiflpnmkclcimabBld
namespace Go.Proofs.Ytiflpnmkclcimab
open Go.RowKit
set_option linter.unusedVariables false

/-- does the text begin so? -/
def prefB (r c : ByteArray) : Bool := decide (c.size ≤ r.size ∧ r.extract 0 c.size = c)
theorem prefB_hit {s r c : ByteArray} {a : Nat} (h : byts r = (byts s).drop a) : prefB r c = true ↔ hit5 s a c := by
  rw [← hit5_iff, ← h]
  have e := hit5_iff r 0 c
  rw [List.drop_zero] at e
  rw [e]
  unfold prefB hit5
  rw [decide_eq_true_eq, Nat.sub_zero, Nat.zero_add]
theorem rest_cut {s r : ByteArray} {a : Nat} (h : byts r = (byts s).drop a) (k : Nat) : byts (r.extract k r.size) = (byts s).drop (a + k) := by
  rw [byts_extract, h, List.drop_drop, List.take_of_length_le]
  rw [List.length_drop]
  have := congrArg List.length h
  rw [byts_len, List.length_drop] at this
  rw [byts_len] at this ⊢
  omega
theorem rest_size {s r : ByteArray} {a : Nat} (h : byts r = (byts s).drop a) : r.size = s.size - a := by
  have := congrArg List.length h
  rwa [byts_len, List.length_drop, byts_len] at this

set_option maxRecDepth 100000 in
theorem prefix0_any (r c : ByteArray) (w : World) (hr : r.size ≤ 1099511627776) (hc : c.size ≤ 1099511627776) :
    Calls Try.prog 90 #[.string r, .string c] w fun e w' => e = .returned (.bool (prefB r c)) ∧ w' = w := by
  by_cases hfit : c.size ≤ r.size
  focus
    have hsl1 : ∀ W : World, (Instr.slice 9 (.string r) none (some (.int .i64 (c.size : Int))) none).run Try.prog W = .ok (.string (r.extract 0 c.size)) W := fun W => by
      rw [run_slice_string_h W 9 r Try.underlying9 .i64 _ (by omega) (by omega), Int.toNat_natCast]
    have hfI : (c.size : Int) ≤ (r.size : Int) := by omega
    have e : prefB r c = decide (r.extract 0 c.size = c) := by unfold prefB; simp [hfit]
    rw [e]
    obtain ⟨t, ht⟩ : ∃ t, t = r.extract 0 c.size := ⟨_, rfl⟩
    rw [← ht] at hsl1 ⊢
    clear e ht
    by_cases htc : t = c
    · subst htc
      rw [decide_eq_true rfl]
      go_enter Try.func90, Try.ntmps90
      go_wp2
      go_ret
      exact ⟨rfl, rfl⟩
    · rw [decide_eq_false htc]
      have hnl : ¬ t.toList = c.toList := fun e => htc (same_of e)
      have hnl2 : (t.toList == c.toList) = false := by simp [hnl]
      go_enter Try.func90, Try.ntmps90
      go_wp2
      go_ret
      exact ⟨by first | rfl | (simp [hnl]), rfl⟩
  have e : prefB r c = false := by unfold prefB; rw [decide_eq_false]; exact fun h => hfit h.1
  rw [e]
  have hfI : ¬ (c.size : Int) ≤ (r.size : Int) := by omega
  have hfD : decide ((c.size : Int) ≤ (r.size : Int)) = false := decide_eq_false hfI
  clear e
  go_enter Try.func90, Try.ntmps90
  go_wp2
  go_ret
  exact ⟨rfl, rfl⟩

set_option maxRecDepth 100000 in
theorem prefix_any (r c : ByteArray) (w : World) (hr : r.size ≤ 1099511627776) (hc : c.size ≤ 1099511627776) :
    Calls Try.prog 72 #[.string r, .string c] w fun e w' => e = .returned (.bool (prefB r c)) ∧ w' = w := by
  go_enter Try.func72, Try.ntmps72
  go_wp2_with fail
  refine (prefix0_any r c _ hr hc).mono ?_
  rintro e w1 ⟨rfl, rfl⟩
  go_wp2
  go_ret
  exact ⟨rfl, rfl⟩

set_option maxRecDepth 100000 in
theorem decoded1_any (B : Nat) (r c : ByteArray) (w : World) (hb : w.cell? ⟨B, 0, none⟩ = some (.string r)) (hr : r.size ≤ 1099511627776) (hc : c.size ≤ 1099511627776) :
    Calls Try.prog 71 #[.string c, .pointer (some ⟨B, 0, none⟩)] w fun e w' => e = .returned (.bool (prefB r c)) ∧ w' = w := by
  go_enter Try.func71, Try.ntmps71
  go_wp2_with fail
  refine (prefix_any r c _ hr hc).mono ?_
  rintro e w1 ⟨rfl, rfl⟩
  go_wp2
  go_ret
  exact ⟨rfl, rfl⟩

set_option maxRecDepth 100000 in
theorem indexFunc_any (va : Value) (cs : List ByteArray) (B : Nat) (r : ByteArray) (w : World) (ha : Rd w va (cellsS cs)) (hl : cs.length ≤ 1099511627776) (hs : ∀ s ∈ cs, s.size ≤ 1099511627776) (hb : w.cell? ⟨B, 0, none⟩ = some (.string r)) (hr : r.size ≤ 1099511627776) :
    Calls Try.prog 70 #[va, .func (.func 71) #[] #[.pointer (some ⟨B, 0, none⟩)]] w fun e w' => (∃ z : Int, e = .returned (.int .i64 z) ∧
      ((z = -1 ∧ ∀ i, i < cs.length → prefB r (cs.getD i ByteArray.empty) = false) ∨ ∃ m : Nat, m < cs.length ∧ z = m ∧ prefB r (cs.getD m ByteArray.empty) = true ∧ ∀ j, j < m → prefB r (cs.getD j ByteArray.empty) = false)) ∧ w' = w := by
  have hla : (cellsS cs).length = cs.length := by simp
  obtain ⟨ao, cap, rfl, hcap, hx⟩ := ha
  rw [hla] at hcap hx ⊢
  have HX : Hid (∀ j, j < cs.length → ∃ b off, ao = some ⟨b, off, none⟩ ∧ b < w.heap.size ∧ w.cell? ⟨b, off + j, none⟩ = some (.string (cs.getD j ByteArray.empty))) := fun j hj => by
    obtain ⟨b, off, h1, h2, h3⟩ := hx (by intro h; rw [h] at hla; simp at hla; omega)
    exact ⟨b, off, h1, h2, (h3 j hj).trans (strs_get cs j hj)⟩
  have HS : Hid (∀ j, j < cs.length → (cs.getD j ByteArray.empty).size ≤ 1099511627776) := fun j hj => by
    have e : cs.getD j ByteArray.empty = cs[j] := by simp [List.getD, hj]
    rw [e]
    exact hs _ (List.getElem_mem hj)
  obtain ⟨n, hn⟩ : ∃ n, n = cs.length := ⟨_, rfl⟩
  rw [← hn] at hcap HX HS hl ⊢
  clear hx hla hs hn
  go_enter Try.func70, Try.ntmps70
  go_wp2
  go_loop [8] (fun i => ∃ k : Nat, i = .int .i64 k ∧ k ≤ n ∧ Hid (∀ j, j < k → prefB r (cs.getD j ByteArray.empty) = false)) (fun i => n - (intOf i).toNat)
  case atStart => exact ⟨0, rfl, Nat.zero_le _, fun j h => by omega⟩
  case round =>
    obtain ⟨k, rfl, hk, hno⟩ := hrel
    by_cases hlt : k < n
    focus
      obtain ⟨b, off, rfl, hbl, hc⟩ := HX.out k hlt
      have hsz := HS.out k hlt
      have HYES : Hid (prefB r (cs.getD k ByteArray.empty) = true → ∃ m : Nat, m < n ∧ (k : Int) = m ∧ prefB r (cs.getD m ByteArray.empty) = true ∧ ∀ j, j < m → prefB r (cs.getD j ByteArray.empty) = false) := fun h => ⟨k, hlt, rfl, h, hno.out⟩
      have HN : Hid (prefB r (cs.getD k ByteArray.empty) = false → ∀ j, j < k + 1 → prefB r (cs.getD j ByteArray.empty) = false) := fun h j hj => by
        rcases Nat.lt_or_ge j k with h2 | h2
        · exact hno.out j h2
        · obtain rfl : j = k := by omega
          exact h
      obtain ⟨x, hxx⟩ : ∃ x, x = cs.getD k ByteArray.empty := ⟨_, rfl⟩
      rw [← hxx] at hc hsz HYES HN
      clear hxx hno
      have HC := decoded1_any B r x w hb hr hsz
      cases hpx : prefB r x
      · rw [hpx] at HC
        have HN2 := HN.out hpx
        have HN3 : Hid (∀ j, j < k + 1 → prefB r (cs.getD j ByteArray.empty) = false) := HN2
        clear HN HN2 HYES hpx
        go_wp2_with fail
        refine HC.mono ?_
        rintro e w1 ⟨rfl, hw1⟩
        replace hw1 := hw1.symm
        subst hw1
        clear HC
        go_wp2
        go_round
        case rel => exact ⟨k + 1, by go_num, by omega, HN3.out⟩
        case measure => simp [intOf]; omega
      · rw [hpx] at HC
        have HY2 : Hid (∃ m : Nat, m < n ∧ (k : Int) = m ∧ prefB r (cs.getD m ByteArray.empty) = true ∧ ∀ j, j < m → prefB r (cs.getD j ByteArray.empty) = false) := HYES.out hpx
        clear HN HYES hpx
        go_wp2_with fail
        refine HC.mono ?_
        rintro e w1 ⟨rfl, hw1⟩
        replace hw1 := hw1.symm
        subst hw1
        clear HC HX HS
        go_wp2
        go_ret
        exact ⟨⟨_, rfl, Or.inr HY2.out⟩, rfl⟩
    obtain rfl : k = n := by omega
    clear HX HS
    go_wp2
    go_ret
    exact ⟨⟨_, rfl, Or.inl ⟨rfl, hno.out⟩⟩, rfl⟩

set_option maxRecDepth 100000 in
theorem indexS_any (va : Value) (cs : List ByteArray) (w : World) (ha : Rd w va (cellsS cs)) (hl : cs.length ≤ 1099511627776) :
    Calls Try.prog 89 #[va, .string ⟨#[]⟩] w fun e w' => (∃ z : Int, e = .returned (.int .i64 z) ∧ ((z = -1 ∧ ∀ i, i < cs.length → (cs.getD i ByteArray.empty).size ≠ 0) ∨ (0 ≤ z ∧ ∃ i, i < cs.length ∧ (cs.getD i ByteArray.empty).size = 0))) ∧ w' = w := by
  have hla : (cellsS cs).length = cs.length := by simp
  obtain ⟨ao, cap, rfl, hcap, hx⟩ := ha
  rw [hla] at hcap hx ⊢
  have HX : Hid (∀ j, j < cs.length → ∃ b off, ao = some ⟨b, off, none⟩ ∧ b < w.heap.size ∧ w.cell? ⟨b, off + j, none⟩ = some (.string (cs.getD j ByteArray.empty))) := fun j hj => by
    obtain ⟨b, off, h1, h2, h3⟩ := hx (by intro h; rw [h] at hla; simp at hla; omega)
    exact ⟨b, off, h1, h2, (h3 j hj).trans (strs_get cs j hj)⟩
  obtain ⟨n, hn⟩ : ∃ n, n = cs.length := ⟨_, rfl⟩
  rw [← hn] at hcap HX hl ⊢
  clear hx hla hn
  go_enter Try.func89, Try.ntmps89
  go_wp2
  go_loop [8] (fun i => ∃ k : Nat, i = .int .i64 k ∧ k ≤ n ∧ Hid (∀ j, j < k → (cs.getD j ByteArray.empty).size ≠ 0)) (fun i => n - (intOf i).toNat)
  case atStart => exact ⟨0, rfl, Nat.zero_le _, fun j h => by omega⟩
  case round =>
    obtain ⟨k, rfl, hk, hno⟩ := hrel
    by_cases hlt : k < n
    focus
      obtain ⟨b, off, rfl, hbl, hc⟩ := HX.out k hlt
      obtain ⟨x, hxx⟩ : ∃ x, x = cs.getD k ByteArray.empty := ⟨_, rfl⟩
      have HXX : Hid (x = cs.getD k ByteArray.empty) := hxx
      rw [← hxx] at hc
      clear hxx
      by_cases hx0 : x = ⟨#[]⟩
      · have HG : Hid (∃ i, i < n ∧ (cs.getD i ByteArray.empty).size = 0) := ⟨k, hlt, by rw [← HXX.out, hx0]; rfl⟩
        subst hx0
        clear HX HXX hno
        go_wp2
        go_ret
        exact ⟨⟨_, rfl, Or.inr ⟨by omega, by simpa using HG.out⟩⟩, rfl⟩
      · have hxe : ¬ x.toList = [] := fun e => hx0 (same_of (b := ⟨#[]⟩) (by rw [e]; simp))
        have hxe2 : (x.toList == []) = false := by simp [hxe]
        have hxe3 : ([] == x.toList) = false := by rw [Bool.beq_comm] ; simp [hxe]
        have HN2 : Hid (∀ i, i < k + 1 → (cs.getD i ByteArray.empty).size ≠ 0) := fun i hi => by
          rcases Nat.lt_or_ge i k with h | h
          · exact hno.out i h
          · obtain rfl : i = k := by omega
            rw [← HXX.out]
            exact fun e => hx0 ((size_zero x).1 e)
        clear hno HXX
        go_wp2
        go_round
        case rel => exact ⟨k + 1, by go_num, by omega, HN2.out⟩
        case measure => simp [intOf]; omega
    obtain rfl : k = n := by omega
    clear HX
    go_wp2
    go_ret
    exact ⟨⟨_, rfl, Or.inl ⟨rfl, by simpa using hno.out⟩⟩, rfl⟩

set_option maxRecDepth 100000 in
theorem containsS_any (va : Value) (cs : List ByteArray) (w : World) (ha : Rd w va (cellsS cs)) (hl : cs.length ≤ 1099511627776) :
    Calls Try.prog 69 #[va, .string ⟨#[]⟩] w fun e w' => (∃ c : Bool, e = .returned (.bool c) ∧ ((c = false ∧ ∀ i, i < cs.length → (cs.getD i ByteArray.empty).size ≠ 0) ∨ (c = true ∧ ∃ i, i < cs.length ∧ (cs.getD i ByteArray.empty).size = 0))) ∧ w' = w := by
  have H := indexS_any va cs w ha hl
  clear ha hl
  go_enter Try.func69, Try.ntmps69
  go_wp2_with fail
  refine H.mono ?_
  rintro e w1 ⟨⟨z, rfl, hz⟩, hw1⟩
  replace hw1 := hw1.symm
  subst hw1
  clear H
  rcases hz with ⟨rfl, hz⟩ | ⟨h0, hz⟩
  · have HZ : Hid (∀ i, i < cs.length → (cs.getD i ByteArray.empty).size ≠ 0) := hz
    clear hz
    go_wp2
    go_ret
    exact ⟨⟨_, rfl, Or.inl ⟨rfl, HZ.out⟩⟩, rfl⟩
  · have HZ : Hid (∃ i, i < cs.length ∧ (cs.getD i ByteArray.empty).size = 0) := hz
    clear hz
    go_wp2
    go_ret
    exact ⟨⟨_, rfl, Or.inr ⟨by first | rfl | simpa using h0, HZ.out⟩⟩, rfl⟩

theorem set_box {w : World} {b : Nat} {v v' : Value} {e : TypeId} (h : w.heap[b]? = some (.cells #[v] e (0, 0))) : (w.setCell ⟨b, 0, none⟩ v').heap[b]? = some (.cells #[v'] e (0, 0)) := by simp [World.setCell, Array.getElem?_modify, h]
theorem set_grown (w : World) (b : Nat) (v : Value) : w.grownBy (w.setCell ⟨b, 0, none⟩ v) (some b) := ⟨rfl, rfl, rfl, by simp [World.setCell], fun k _ hk => Below.heap_setCell _ _ _ _ (fun e => hk (by simp [e]))⟩
def restLen (B : Nat) (w : World) : Nat := match w.cell? ⟨B, 0, none⟩ with
  | some (.string t) => t.size
  | _ => 0
theorem restLen_of {B : Nat} {w : World} {t : ByteArray} (h : w.cell? ⟨B, 0, none⟩ = some (.string t)) : restLen B w = t.size := by unfold restLen; rw [h]

set_option maxHeartbeats 2000000 in
set_option maxRecDepth 100000 in
theorem implDecoded_any (s : ByteArray) (va : Value) (cs : List ByteArray) (w : World) (hss : s.size ≤ 1099511627776) (ha : Rd w va (cellsS cs)) (hl : cs.length ≤ 1099511627776) (hs : ∀ s ∈ cs, s.size ≤ 1099511627776) :
    Calls Try.prog 31 #[.string s, va] w fun e w' => e = .returned (optV (decodedT s cs)) ∧ Below w.heap.size w w' := by
  have hla : (cellsS cs).length = cs.length := by simp
  have HBAD : Hid (¬ (s.size ≤ 20000 ∧ cs.length ≤ 32 ∧ ∀ i, i < cs.length → (cs.getD i ByteArray.empty).size ≠ 0) → decodedT s cs = none) := fun h => by unfold decodedT; rw [if_neg h]
  have HOK : Hid ((s.size ≤ 20000 ∧ cs.length ≤ 32 ∧ ∀ i, i < cs.length → (cs.getD i ByteArray.empty).size ≠ 0) → decodedT s cs = (Huff.decG (codeL cs) ((byts s).drop 0)).map fun is => asB (is.map fun (i : Nat) => (i : Int))) := fun h => by unfold decodedT; rw [if_pos h]; rfl
  obtain ⟨F, HEND, HNONE, HSOME, HOK2⟩ : ∃ F : Nat → Option (List Nat), Hid (F s.size = some []) ∧
      Hid (∀ a, a < s.size → (∀ i, i < cs.length → ¬ hit5 s a (cs.getD i ByteArray.empty)) → F a = none) ∧
      Hid ((∀ i, i < cs.length → (cs.getD i ByteArray.empty).size ≠ 0) → ∀ a i, a < s.size → i < cs.length → hit5 s a (cs.getD i ByteArray.empty) → (∀ j, j < i → ¬ hit5 s a (cs.getD j ByteArray.empty)) → F a = (F (a + (cs.getD i ByteArray.empty).size)).map (i :: ·)) ∧
      Hid ((s.size ≤ 20000 ∧ cs.length ≤ 32 ∧ ∀ i, i < cs.length → (cs.getD i ByteArray.empty).size ≠ 0) → decodedT s cs = (F 0).map fun is => asB (is.map fun (i : Nat) => (i : Int))) :=
    ⟨fun a => Huff.decG (codeL cs) ((byts s).drop a), dec_end s cs, fun a ha h => dec_none s cs ha h, fun hne a i ha hi h h2 => dec_some s cs hne ha hi h h2, HOK.out⟩
  clear HOK
  generalize decodedT s cs = z at HBAD HOK2 ⊢
  have HSZ : Hid (∀ s ∈ cs, s.size ≤ 1099511627776) := hs
  obtain ⟨w1, hw1⟩ : ∃ w1, w1 = w.alloc (.cells #[.string s] 9) := ⟨_, rfl⟩
  have hB1 : Below w.heap.size w w1 := by rw [hw1]; exact (Below.refl _ _).alloc (Nat.le_refl _) _
  have hs1 : w1.heap.size = w.heap.size + 1 := by rw [hw1]; exact World.size_alloc _ _
  have ha1 : Rd w1 va (cellsS cs) := rd_below ha hB1
  have hbx1 : w1.heap[w.heap.size]? = some (.cells #[.string s] 9 (0, 0)) := by rw [hw1]; exact heap_alloc_new w _
  have hc1 : w1.cell? ⟨w.heap.size, 0, none⟩ = some (.string s) := by rw [Lib.cell_of_heap hbx1]; rfl
  obtain ⟨ao, cap, hva, hcap, _⟩ := id ha
  rw [hla] at hva hcap
  by_cases hb1 : 20000 < s.size
  focus
    have hG := HBAD.out (by omega)
    subst hG
    have hbI : 20000 < (s.size : Int) := by omega
    clear HBAD HOK2 HEND HNONE HSOME ha ha1 hs
    subst hva
    go_enter Try.func31, Try.ntmps31
    go_wp2
    rw [← hw1]
    go_wp2
    go_ret2
    exact ⟨rfl, hB1⟩
  by_cases hb2 : 32 < cs.length
  focus
    have hG := HBAD.out (by omega)
    subst hG
    have hbI : ¬ 20000 < (s.size : Int) := by omega
    obtain ⟨n, hn⟩ : ∃ n, n = cs.length := ⟨_, rfl⟩
    rw [← hn] at hva hcap hb2 hl
    have hbI2 : 32 < (n : Int) := by omega
    clear HBAD HOK2 HEND HNONE HSOME ha ha1 hn hs
    subst hva
    go_enter Try.func31, Try.ntmps31
    go_wp2
    rw [← hw1]
    go_wp2
    go_ret2
    exact ⟨rfl, hB1⟩
  have hbI : ¬ 20000 < (s.size : Int) := by omega
  have hn32 : cs.length ≤ 32 := by omega
  have hs20 : s.size ≤ 20000 := by omega
  have HC := containsS_any va cs w1 ha1 hl
  obtain ⟨n, hn⟩ : ∃ n, n = cs.length := ⟨_, rfl⟩
  rw [← hn] at hva hcap hb2 hl hn32 HC HBAD HOK2 HNONE HSOME
  have hbI2 : ¬ 32 < (n : Int) := by omega
  have HNN : Hid (n = cs.length) := hn
  have hva2 := hva
  have HA : Hid (Rd w va (cellsS cs)) := ha
  clear hn hla ha ha1 hs
  rw [hva] at HC HA
  subst hva
  go_enter Try.func31, Try.ntmps31
  go_wp2_with fail
  rw [← hw1]
  refine HC.mono ?_
  rintro e u ⟨⟨c, rfl, hc⟩, hu⟩
  replace hu := hu.symm
  subst hu
  clear HC hbI hbI2
  have HW1 : Hid (w1 = w.alloc (.cells #[.string s] 9)) := hw1
  clear hw1
  rcases hc with ⟨rfl, hne⟩ | ⟨rfl, hyes⟩
  focus
    have HNE : Hid (∀ i, i < n → (cs.getD i ByteArray.empty).size ≠ 0) := (by simpa using hne : ∀ i, i < n → (cs.getD i ByteArray.empty).size ≠ 0)
    have HZ : Hid (z = (F 0).map fun is => asB (is.map fun (i : Nat) => (i : Int))) := HOK2.out ⟨hs20, hn32, HNE.out⟩
    have HSM : Hid (∀ a i, a < s.size → i < n → hit5 s a (cs.getD i ByteArray.empty) → (∀ j, j < i → ¬ hit5 s a (cs.getD j ByteArray.empty)) → F a = (F (a + (cs.getD i ByteArray.empty).size)).map (i :: ·)) := HSOME.out HNE.out
    clear HBAD HOK2 HSOME hne
    obtain ⟨w2, hw2⟩ : ∃ w2, w2 = w1.alloc (.cells #[.pointer none, .slice none 0 0] 78) := ⟨_, rfl⟩
    have hB2 : Below w.heap.size w w2 := by rw [hw2]; exact hB1.alloc (by omega) _
    have hs2 : w2.heap.size = w.heap.size + 2 := by rw [hw2, World.size_alloc]; omega
    have hbx2 : w2.heap[w.heap.size]? = some (.cells #[.string s] 9 (0, 0)) := by rw [hw2]; exact (Lib.alloc_old w1 _ _ (by omega)).trans hbx1
    have hbd2 : Bld (w.heap.size + 2) (w.heap.size + 1) [] w2 := by rw [hw2, ← hs1]; exact bld_new w1
    have HW2 : Hid (w1.alloc (.cells #[.pointer none, .slice none 0 0] 78) = w2) := hw2.symm
    clear hw2
    go_wp2
    rw [HW2.out]
    clear HW1 HW2 hB1 hbx1 hc1 hs1
    go_loopw [7] (fun q wr => ∃ (a : Nat) (is : List Nat) (r : ByteArray), a ≤ s.size ∧ is.length ≤ a ∧ byts r = (byts s).drop a ∧ wr.heap[w.heap.size]? = some (.cells #[.string r] 9 (0, 0)) ∧ Bld (w.heap.size + 2) (w.heap.size + 1) (is.map fun (i : Nat) => (i : Int)) wr ∧ w.heap.size + 2 ≤ wr.heap.size ∧ Hid ((∀ i ∈ is, i < 32) ∧ F 0 = (F a).map (is ++ ·)) ∧ Below w.heap.size w wr) (fun _ wr => restLen w.heap.size wr)
    case atStart => exact ⟨0, [], s, Nat.zero_le _, Nat.le_refl _, rfl, hbx2, hbd2, by omega, ⟨fun i hi => (by cases hi), (by cases F 0 <;> rfl)⟩, hB2⟩
    case round =>
      obtain ⟨a, is, r, haa, hil, hr, hbx, hbd, hsz, hf, hb⟩ := hrel
      clear hbx2 hbd2 hs2 hB2
      have hrs := rest_size hr
      have hc2 : wr.cell? ⟨w.heap.size, 0, none⟩ = some (.string r) := by rw [Lib.cell_of_heap hbx]; rfl
      by_cases halt : a < s.size
      focus
        have hrne : ¬ r.toList = [] := fun e => by
          have : r = ⟨#[]⟩ := same_of (b := ⟨#[]⟩) (by rw [e]; simp)
          rw [this] at hrs
          have h0 : (⟨#[]⟩ : ByteArray).size = 0 := rfl
          omega
        have hrne2 : (r.toList == []) = false := by simp [hrne]
        have hr40 : r.size ≤ 1099511627776 := by omega
        have haw := rd_below HA.out hb
        have HNa : Hid ((∀ i, i < n → prefB r (cs.getD i ByteArray.empty) = false) → F a = none) := fun h => HNONE.out a halt fun i hi e => by
          have h1 := h i hi
          rw [(prefB_hit hr).2 e] at h1
          cases h1
        have HSa : Hid (∀ i, i < n → prefB r (cs.getD i ByteArray.empty) = true → (∀ j, j < i → prefB r (cs.getD j ByteArray.empty) = false) → F a = (F (a + (cs.getD i ByteArray.empty).size)).map (i :: ·)) := fun i hi h1 h2 => HSM.out a i halt hi ((prefB_hit hr).1 h1) fun j hj e => by
          have h3 := h2 j hj
          rw [(prefB_hit hr).2 e] at h3
          cases h3
        have HFa : Hid (F a = none → z = none) := fun e => by rw [HZ.out, hf.out.2, e]; rfl
        have HF := indexFunc_any _ cs w.heap.size r wr haw (by rw [← HNN.out]; exact hl) HSZ.out hc2 hr40
        rw [← HNN.out] at HF
        clear haw
        have HR : Hid (byts r = (byts s).drop a) := hr
        clear hr hrs
        go_wp2_with fail
        refine HF.mono ?_
        rintro e u ⟨⟨q, rfl, hq⟩, hu⟩
        replace hu := hu.symm
        subst hu
        clear HF
        rcases hq with ⟨rfl, hno⟩ | ⟨m, hm, rfl, hyes, hfirst⟩
        focus
          have hG := HFa.out (HNa.out hno)
          subst hG
          clear HNE HZ HSM HNa HSa HFa HEND HNONE hf hno hbd
          go_wp2
          go_ret2
          exact ⟨rfl, hb⟩
        have hstep : F a = (F (a + (cs.getD m ByteArray.empty).size)).map (m :: ·) := HSa.out m hm hyes hfirst
        have hne1 := HNE.out m hm
        have hfit : (cs.getD m ByteArray.empty).size ≤ r.size := (of_decide_eq_true hyes).1
        obtain ⟨b, off, hao, hbl, hcell⟩ : ∃ b off, ao = some ⟨b, off, none⟩ ∧ b < w.heap.size ∧ w.cell? ⟨b, off + m, none⟩ = some (.string (cs.getD m ByteArray.empty)) := by
          obtain ⟨ao', cap', he, _, hx⟩ := HA.out
          simp only [Value.slice.injEq] at he
          obtain ⟨rfl, _, _⟩ := he
          obtain ⟨b, off, h1, h2, h3⟩ := hx (by
            intro h
            have hq : (cellsS cs).length = cs.length := by simp
            rw [h] at hq
            have hq2 : 0 = cs.length := hq
            have := HNN.out
            have := hm
            omega)
          exact ⟨b, off, h1, h2, (h3 m (by simp; rw [← HNN.out]; exact hm)).trans (strs_get cs m (by rw [← HNN.out]; exact hm))⟩
        have hcr : Hid (byts (r.extract (cs.getD m ByteArray.empty).size r.size) = (byts s).drop (a + (cs.getD m ByteArray.empty).size)) := rest_cut HR.out _
        have hsx : (cs.getD m ByteArray.empty).size ≤ 1099511627776 := by omega
        have hrs2 := rest_size HR.out
        obtain ⟨x, hxx⟩ : ∃ x, x = cs.getD m ByteArray.empty := ⟨_, rfl⟩
        rw [← hxx] at hstep hne1 hfit hcell hcr hsx
        have HF2 : Hid ((∀ i ∈ is ++ [m], i < 32) ∧ F 0 = (F (a + x.size)).map ((is ++ [m]) ++ ·)) := ⟨fun i hi => by
          rcases List.mem_append.1 hi with h | h
          · exact hf.out.1 i h
          · simp at h; omega, by
          rw [hf.out.2, hstep, Option.map_map]
          congr 1
          funext l
          simp⟩
        have hm256 : (m : Int) % 256 = m := by omega
        have hmI : ¬ (m : Int) < 0 := by omega
        clear hxx hstep HFa HSa HNa hyes hfirst hf HR
        go_wp2_with fail
        refine (writeByte_any w.heap.size _ _ (by omega) (by omega) _ (m : Int) _ hbd (by rw [List.length_map]; omega) (by exact hsz)).mono ?_
        rintro e w3 ⟨rfl, hbd3, hb3, hk3⟩
        have hB3 := hb.trans hb3
        have hs3 := hb3.size
        have hsz3 : w.heap.size + 2 ≤ w3.heap.size := Nat.le_trans hsz hs3
        have hbx3 : w3.heap[w.heap.size]? = some (.cells #[.string r] 9 (0, 0)) := (hk3 w.heap.size (by omega) (by omega) (by omega)).trans hbx
        have hc3 : w3.cell? ⟨w.heap.size, 0, none⟩ = some (.string r) := by rw [Lib.cell_of_heap hbx3]; rfl
        have hf3 : w3.frozen? ⟨w.heap.size, 0, none⟩ = false := Lib.frozen_of_heap hbx3 0
        have hcx3 : w3.cell? ⟨b, off + m, none⟩ = some (.string x) := (hB3.cell (p := ⟨b, off + m, none⟩) hbl).trans hcell
        have hsl : ∀ W : World, (Instr.slice 9 (.string r) (some (.int .i64 (x.size : Int))) none none).run Try.prog W = .ok (.string (r.extract x.size r.size)) W := fun W => by
          rw [run_slice_string_l W 9 r Try.underlying9 .i64 _ (by omega) (by omega), Int.toNat_natCast]
        have hrz : (r.extract x.size r.size).size = r.size - x.size := by rw [ByteArray.size_extract]; omega
        obtain ⟨t, ht⟩ : ∃ t, t = r.extract x.size r.size := ⟨_, rfl⟩
        rw [← ht] at hcr hsl hrz
        have hrl : restLen w.heap.size wr = r.size := restLen_of hc2
        subst hao
        have hbd4 : Bld (w.heap.size + 2) (w.heap.size + 1) ((is ++ [m]).map fun (i : Nat) => (i : Int)) w3 := by rw [List.map_append]; exact hbd3
        have HBD : Hid (Bld (w.heap.size + 2) (w.heap.size + 1) ((is ++ [m]).map fun (i : Nat) => (i : Int)) w3) := hbd4
        have HBX : Hid (w3.heap[w.heap.size]? = some (.cells #[.string r] 9 (0, 0))) := hbx3
        have hmn : (m : Int) < (n : Int) := by omega
        clear ht hbx hbd hb hc2 hb3 hk3 hs3 hbd3 hbd4 hbx3 hcell
        go_wp2
        go_region
        all_goals
          go_wp2
          go_roundw
          case rel =>
            refine ⟨a + x.size, is ++ [m], t, by omega, by simp; omega, hcr.out, ?_, ?_, ?_, HF2.out, ?_⟩
            · exact set_box (w := w3.drewN _) HBX.out
            · exact (bld_grown (k := w.heap.size) (w := w3) HBD.out (set_grown w3 w.heap.size (.string t)) (by omega) (by omega) : Bld _ _ _ (w3.setCell ⟨w.heap.size, 0, none⟩ (.string t)))
            · simp [World.setCell]; exact hsz3
            · exact (below_drewN hB3 _).setCell (p := ⟨w.heap.size, 0, none⟩) (Nat.le_refl _) _
          case measure =>
            rw [hrl]
            rw [restLen_of (t := t)]
            · omega
            · exact Lib.cell_of_heap (set_box (w := w3.drewN _) HBX.out) 0
      obtain rfl : a = s.size := by omega
      have hr0 : r = ⟨#[]⟩ := (size_zero r).1 (by omega)
      subst hr0
      have hG : z = some (asB (is.map fun (i : Nat) => (i : Int))) := by
        rw [HZ.out, hf.out.2, HEND.out]
        simp
      have hlt32 := hf.out.1
      subst hG
      have HT := builderText_any w.heap.size _ _ (by omega) _ _ (fun y hy => by
        obtain ⟨i, hi, rfl⟩ := List.mem_map.1 hy
        have := hlt32 i hi
        show 0 ≤ (i : Int) ∧ (i : Int) ≤ 255
        omega) hbd
      obtain ⟨t, ht⟩ : ∃ t, t = asB (is.map fun (i : Nat) => (i : Int)) := ⟨_, rfl⟩
      have HTT : Hid (asB (is.map fun (i : Nat) => (i : Int)) = t) := ht.symm
      rw [← ht] at HT
      clear ht HNE HZ HSM HEND HNONE hf hlt32 hbd
      go_wp2_with fail
      refine HT.mono ?_
      rintro e w3 ⟨rfl, hb3⟩
      have hB3 := hb.trans hb3
      clear HT
      go_wp2
      go_ret2
      exact ⟨by rw [HTT.out]; rfl, hB3⟩
  have hG := HBAD.out (fun h => by
    obtain ⟨i, h1, h2⟩ := hyes
    exact h.2.2 i h1 (by simpa using h2))
  subst hG
  clear HBAD HOK2 HEND HNONE HSOME hyes
  go_wp2
  go_ret2
  exact ⟨rfl, hB1⟩

end Go.Proofs.Ytiflpnmkclcimab
