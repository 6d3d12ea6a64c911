/- CONTRACTS: the program's Coded. -/
import Derived.Test.YtiflpnmkclcimabCodedS
import Derived.Test.YtiflpnmkclcimabBld
namespace Go.Proofs.Ytiflpnmkclcimab
open Go.RowKit
set_option linter.unusedVariables false
theorem bytesRow_size5 (s : ByteArray) (cap : Nat) (h : s.size ≤ cap) : (bytesRow s cap).size = cap := by
  have e : s.data.size = s.size := rfl
  simp [bytesRow, e]; omega

set_option maxHeartbeats 2000000 in
set_option maxRecDepth 100000 in
theorem implCoded_any (s : ByteArray) (va : Value) (cs : List ByteArray) (w : World) (hss : s.size ≤ 1099511627776) (ha : Rd w va (cellsS cs)) (hl : cs.length ≤ 1099511627776) (hs : ∀ s ∈ cs, s.size ≤ 1099511627776) :
    Calls Try.prog 29 #[.string s, va] w fun e w' => e = .returned (optV (codedT s cs)) ∧ Below w.heap.size w w' := by
  have hla : (cellsS cs).length = cs.length := by simp
  obtain ⟨ao, cap0, rfl, hcap0, hx⟩ := ha
  rw [hla] at hcap0 hx ⊢
  have hxl := said_len s cs
  have HX : Hid (∀ j, j < s.size → ((byts s).getD j 0).toNat < cs.length → ∃ b off, ao = some ⟨b, off, none⟩ ∧ b < w.heap.size ∧ w.cell? ⟨b, off + ((byts s).getD j 0).toNat, none⟩ = some (.string ((said s cs).getD j ByteArray.empty))) := fun j hj hj2 => by
    obtain ⟨b, off, h1, h2, h3⟩ := hx (by intro h; rw [h] at hla; simp at hla; omega)
    exact ⟨b, off, h1, h2, by rw [said_get s cs j hj]; exact (h3 _ hj2).trans (strs_get cs _ hj2)⟩
  have HS : Hid (∀ j, j < s.size → ((byts s).getD j 0).toNat < cs.length → ((said s cs).getD j ByteArray.empty).size ≤ 1099511627776) := fun j hj hj2 => by
    rw [said_get s cs j hj]
    have e : ∀ q (h : q < cs.length), cs.getD q ByteArray.empty = cs[q] := fun q h => by simp [List.getD, h]
    rw [e _ hj2]
    exact hs _ (List.getElem_mem hj2)
  have HNO : Hid (∀ j, j < s.size → ¬ ((byts s).getD j 0).toNat < cs.length → codedT s cs = none) := fun j hj h => by unfold codedT; rw [if_neg (fun k => h (k.1 j hj))]
  have HBIG : Hid (20000 < (catL (said s cs)).length → codedT s cs = none) := fun h => by unfold codedT; rw [if_neg (by omega)]
  have HOK : Hid ((∀ j, j < s.size → ((byts s).getD j 0).toNat < cs.length) → (catL (said s cs)).length ≤ 20000 → codedT s cs = some (asB (catL (said s cs)))) := fun h k => by unfold codedT; rw [if_pos ⟨h, k⟩]
  generalize codedT s cs = z at HNO HBIG HOK ⊢
  generalize said s cs = xs at hxl HX HS HBIG HOK
  have HT : Hid (∀ k, k < xs.length → catL (xs.take (k + 1)) = catL (xs.take k) ++ byts (xs.getD k ByteArray.empty)) := catL_take xs
  have HLE : Hid (∀ k, (catL (xs.take k)).length ≤ (catL xs).length) := catL_le xs
  have HALL : Hid (xs.take s.size = xs) := List.take_of_length_le (by omega)
  have HBY : Hid (Bytes (catL xs)) := catL_bytes xs
  rw [hxl] at HT
  obtain ⟨n, hn⟩ : ∃ n, n = cs.length := ⟨_, rfl⟩
  rw [← hn] at hcap0 HX HS HNO HOK hl ⊢
  clear hx hla hs hn hxl
  obtain ⟨w0, hw0⟩ : ∃ w0, w0 = w.alloc (.cells #[.pointer none, .slice none 0 0] 78) := ⟨_, rfl⟩
  have hs0 : w0.heap.size = w.heap.size + 1 := by rw [hw0]; exact World.size_alloc _ _
  have hB0 : Below w.heap.size w w0 := by rw [hw0]; exact (Below.refl _ _).alloc (Nat.le_refl _) _
  have hbd0 : Bld (w.heap.size + 2) w.heap.size [] w0 := by rw [hw0]; exact bld_new w
  have hcv := run_bytes_of_string (P := Try.prog) w0 9 22 5 s Try.underlying9 Try.underlying22 Try.underlying5
  have hcap : s.size ≤ grownCap w0 s.size 0 5 := grownCap_ge w0 s.size 0 5
  obtain ⟨cap, hcp⟩ : ∃ cap, cap = grownCap w0 s.size 0 5 := ⟨_, rfl⟩
  rw [← hcp] at hcap hcv
  have hcc : ∀ k, k < s.size → ((bytesRow s cap) : Array Value)[k]? = some (.int .u8 ((byts s).getD k 0)) := fun k hk => by
    rw [byts_get s k hk]
    exact bytesRow_at s _ k hk
  obtain ⟨cr, hcr⟩ : ∃ cr, cr = bytesRow s cap := ⟨_, rfl⟩
  rw [← hcr] at hcc hcv
  obtain ⟨w1, hw1⟩ : ∃ w1, w1 = w0.drew.alloc (.cells cr 5 (cr.size, cr.size + 1)) := ⟨_, rfl⟩
  have hB1 : Below w.heap.size w w1 := by rw [hw1]; exact hB0.drew.alloc (by show w.heap.size ≤ w0.heap.size; omega) _
  have hs1 : w1.heap.size = w.heap.size + 2 := by rw [hw1, World.size_alloc]; show w0.heap.size + 1 = _; omega
  have hbd1 : Bld (w.heap.size + 2) w.heap.size [] w1 := bld_below hbd0 (by rw [hw1]; exact ((Below.refl w0.heap.size w0).drew).alloc (Nat.le_refl _) _)
  have hrow : w1.heap[w.heap.size + 1]? = some (.cells cr 5 (cr.size, cr.size + 1)) := by
    rw [hw1, ← hs0]
    exact heap_alloc_new w0.drew _
  rw [← hw1, hs0] at hcv
  have HCC : Hid (∀ k, k < s.size → (cr : Array Value)[k]? = some (.int .u8 ((byts s).getD k 0))) := hcc
  have hs01 : (5 : TypeId) = 5 := rfl
  clear hcp hcr hw1 hbd0 hB0 hcc
  go_enter Try.func29, Try.ntmps29
  go_wp2
  rw [← hw0, hcv]
  simp only [Result.andThen]
  rw [Oper.upon_value]
  go_wp2
  go_loopw [12] (fun i wr => ∃ k : Nat, k ≤ s.size ∧ i = .int .i64 k ∧ Bld (w.heap.size + 2) w.heap.size (catL (xs.take k)) wr ∧ Below w.heap.size w wr ∧ w.heap.size + 2 ≤ wr.heap.size ∧ wr.heap[w.heap.size + 1]? = some (.cells cr 5 (cr.size, cr.size + 1)) ∧ (catL (xs.take k)).length ≤ 20000 ∧ Hid (∀ j, j < k → ((byts s).getD j 0).toNat < n)) (fun i _ => s.size - (intOf i).toNat)
  case atStart => exact ⟨0, Nat.zero_le _, rfl, hbd1, hB1, by omega, hrow, Nat.zero_le _, fun j h => by omega⟩
  case round =>
    obtain ⟨k, hk, rfl, hbd, hb, hsz, hro, hm, hall⟩ := hrel
    clear hbd1 hB1 hrow hcv hs1 hw0 hs0
    by_cases hlt : k < s.size
    focus
      have hck : wr.cell? ⟨w.heap.size + 1, k, none⟩ = some (.int .u8 ((byts s).getD k 0)) := by
        rw [Lib.cell_of_heap hro]
        exact HCC.out k hlt
      have hr := byts_range s k
      have HXk := fun h => HX.out k hlt h
      have HSk := fun h => HS.out k hlt h
      have HNk : Hid (¬ ((byts s).getD k 0).toNat < n → z = none) := HNO.out k hlt
      have hnew : ((byts s).getD k 0).toNat < n → ∀ j, j < k + 1 → ((byts s).getD j 0).toNat < n := fun h j hj => by
        rcases Nat.lt_or_ge j k with h2 | h2
        · exact hall.out j h2
        · obtain rfl : j = k := by omega
          exact h
      have HNEW : Hid (((byts s).getD k 0).toNat < n → ∀ j, j < k + 1 → ((byts s).getD j 0).toNat < n) := hnew
      have hidx : (((byts s).getD k 0).toNat : Int) = (byts s).getD k 0 := by omega
      obtain ⟨y, hyy⟩ : ∃ y, y = ((byts s).getD k 0).toNat := ⟨_, rfl⟩
      rw [← hyy] at HXk HSk HNk HNEW hidx
      rw [← hidx] at hck hr
      obtain ⟨_, hr1⟩ := hr
      have HT2 := HT.out k hlt
      have HLEk := HLE.out (k + 1)
      clear hnew hidx hyy hall
      by_cases hyn : y < n
      focus
        obtain ⟨b, off, rfl, hbl, hc0⟩ := HXk hyn
        have hsx := HSk hyn
        have hc := (hb.cell (p := ⟨b, off + y, none⟩) hbl).trans hc0
        obtain ⟨x, hxx⟩ : ∃ x, x = xs.getD k ByteArray.empty := ⟨_, rfl⟩
        rw [← hxx] at hc hsx HT2
        obtain ⟨acc, hacc⟩ : ∃ acc, acc = catL (xs.take k) := ⟨_, rfl⟩
        rw [← hacc] at hbd hm HT2
        have hml : (catL (xs.take (k + 1))).length = acc.length + x.size := by rw [HT2, List.length_append, byts_len]
        rw [hml] at HLEk
        have HT3 : Hid (catL (xs.take (k + 1)) = acc ++ byts x) := HT2
        have HLE2 : Hid (acc.length + x.size ≤ (catL xs).length) := HLEk
        have HN2 : Hid (∀ j, j < k + 1 → ((byts s).getD j 0).toNat < n) := HNEW.out hyn
        have hwy : IntKind.i64.wrap (y : Int) = (y : Int) := IntWalk.i64_in _ ⟨by omega, by omega⟩
        have hyD : decide ((n : Int) ≤ IntKind.i64.wrap (y : Int)) = false := by rw [hwy]; exact decide_eq_false (by omega)
        have hbdd : ∀ d, Bld (w.heap.size + 2) w.heap.size acc (wr.drewN d) := fun d => bld_below hbd (below_drewN (Below.refl _ wr) d)
        clear hxx HT2 hml HLEk HXk HSk HNk HNEW hc0 hacc
        by_cases hgt : (20000 : Int) - (acc.length : Int) < (x.size : Int)
        · have hG := HBIG.out (by have := HLE2.out; omega)
          subst hG
          have hgD : (decide (n ≤ y) || decide (IntKind.i64.wrap (20000 - (acc.length : Int)) < (x.size : Int))) = true := by rw [IntWalk.i64_in _ ⟨by omega, by omega⟩, decide_eq_true hgt, Bool.or_true]
          clear HX HS HNO HBIG HOK HT HLE HALL HN2
          go_wp2
          go_quiet (first | (go_at_call 65; exact Calls.quiet_of_same (builderLen_any _ _ _ _ (hbdd _))))
          go_wp2
          go_ret2
          exact ⟨rfl, below_drewN hb _⟩
        · have hgD : (decide (n ≤ y) || decide (IntKind.i64.wrap (20000 - (acc.length : Int)) < (x.size : Int))) = false := by rw [IntWalk.i64_in _ ⟨by omega, by omega⟩, decide_eq_false hgt, decide_eq_false (by omega : ¬ n ≤ y)]; rfl
          go_wp2
          go_quiet (first | (go_at_call 65; exact Calls.quiet_of_same (builderLen_any _ _ _ _ (hbdd _))))
          go_wp2_with fail
          refine (writeString_any w.heap.size _ _ (Nat.le_refl _) (by omega) _ x _ (hbdd _) (by omega) (by exact hsz)).mono ?_
          rintro e w3 ⟨rfl, hbd3, hb3, hk3⟩
          have hB3 := (below_drewN hb _).trans hb3
          have hs3 := hb3.size
          have hro3 : w3.heap[w.heap.size + 1]? = some (.cells cr 5 (cr.size, cr.size + 1)) := (hk3 (w.heap.size + 1) (by omega) (by omega) (show w.heap.size + 1 < wr.heap.size by omega)).trans hro
          have hsz3 : w.heap.size + 2 ≤ w3.heap.size := Nat.le_trans hsz hs3
          rw [← HT3.out] at hbd3
          clear hbd hb hro hbdd hc hck hb3 hk3 hs3
          go_wp2
          go_roundw
          case rel => exact ⟨k + 1, by omega, by go_num, hbd3, hB3, hsz3, hro3, by rw [HT3.out, List.length_append, byts_len]; omega, HN2.out⟩
          case measure => simp [intOf]; omega
      · have hG := HNk.out hyn
        subst hG
        have hwy : IntKind.i64.wrap (y : Int) = (y : Int) := IntWalk.i64_in _ ⟨by omega, by omega⟩
        have hyD : decide ((n : Int) ≤ IntKind.i64.wrap (y : Int)) = true := by rw [hwy]; exact decide_eq_true (by omega)
        clear HX HS HNO HBIG HOK HT HLE HALL HXk HSk HNk HNEW HT2 HLEk hbd
        go_wp2
        go_quiet (fail)
        go_wp2
        go_ret2
        exact ⟨rfl, below_drewN hb _⟩
    obtain rfl : k = s.size := by omega
    rw [HALL.out] at hbd hm
    have hG := HOK.out hall.out hm
    subst hG
    have HR := builderText_any w.heap.size _ _ (by omega) _ _ HBY.out hbd
    obtain ⟨t, ht⟩ : ∃ t, t = asB (catL xs) := ⟨_, rfl⟩
    have HTT : Hid (asB (catL xs) = t) := ht.symm
    rw [← ht] at HR
    clear ht hbd HX HS HNO HBIG HOK HT HLE hm HBY
    go_wp2_with fail
    refine HR.mono ?_
    rintro e w3 ⟨rfl, hb3⟩
    have hB3 := hb.trans hb3
    clear HR
    go_wp2
    go_ret2
    exact ⟨by rw [HTT.out]; rfl, hB3⟩

end Go.Proofs.Ytiflpnmkclcimab
