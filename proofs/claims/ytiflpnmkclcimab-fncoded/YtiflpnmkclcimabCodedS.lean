/- CONTRACTS: the specification's Coded. -/
import Derived.Test.YtiflpnmkclcimabShort
import Derived.Test.YtiflpnmkclcimabCat
namespace Go.Proofs.Ytiflpnmkclcimab
open Go.RowKit
set_option linter.unusedVariables false

/-- the codes of a text's bytes -/
def said (s : ByteArray) (cs : List ByteArray) : List ByteArray := (byts s).map fun z => cs.getD z.toNat ByteArray.empty
theorem said_len (s : ByteArray) (cs : List ByteArray) : (said s cs).length = s.size := by unfold said; rw [List.length_map, byts_len]
theorem said_get (s : ByteArray) (cs : List ByteArray) (k : Nat) (h : k < s.size) : (said s cs).getD k ByteArray.empty = cs.getD ((byts s).getD k 0).toNat ByteArray.empty := by
  have h2 : k < (byts s).length := by rw [byts_len]; exact h
  unfold said
  simp [List.getD, h2]
abbrev hasAll (s : ByteArray) (n : Nat) : Prop := ∀ k, k < s.size → ((byts s).getD k 0).toNat < n
/-- what Coded tells -/
def codedT (s : ByteArray) (cs : List ByteArray) : Option ByteArray := if hasAll s cs.length ∧ (catL (said s cs)).length ≤ 20000 then some (asB (catL (said s cs))) else none
def optV (o : Option ByteArray) : Value := .tuple #[.string (o.getD ⟨#[]⟩), .bool o.isSome]

set_option maxHeartbeats 2000000 in
set_option maxRecDepth 100000 in
theorem specCoded_any (s : ByteArray) (va : Value) (cs : List ByteArray) (w : World) (hss : s.size ≤ 1099511627776) (ha : Rd w va (cellsS cs)) (hl : cs.length ≤ 1099511627776) (hs : ∀ s ∈ cs, s.size ≤ 1099511627776) :
    Calls Try.prog 32 #[.string s, va] w fun e w' => e = .returned (optV (codedT s cs)) ∧ Below w.heap.size w w' := by
  obtain ⟨i0, hi, hz0, hz1, hz2⟩ := info_parts Try.infoB
  have hla : (cellsS cs).length = cs.length := by simp
  obtain ⟨ao, cap, rfl, hcap, hx⟩ := ha
  rw [hla] at hcap hx ⊢
  have hxl := said_len s cs
  have HX : Hid (∀ j, j < s.size → ((byts s).getD j 0).toNat < cs.length → ∃ b off, ao = some ⟨b, off, none⟩ ∧ b < w.heap.size ∧ w.cell? ⟨b, off + ((byts s).getD j 0).toNat, none⟩ = some (.string ((said s cs).getD j ByteArray.empty))) := fun j hj hj2 => by
    obtain ⟨b, off, h1, h2, h3⟩ := hx (by intro h; rw [h] at hla; simp at hla; omega)
    exact ⟨b, off, h1, h2, by rw [said_get s cs j hj]; exact (h3 _ hj2).trans (strs_get cs _ hj2)⟩
  have HS : Hid (∀ j, j < s.size → ((byts s).getD j 0).toNat < cs.length → ((said s cs).getD j ByteArray.empty).size ≤ 1099511627776) := fun j hj hj2 => by
    rw [said_get s cs j hj]
    have e : ∀ q (h : q < cs.length), cs.getD q ByteArray.empty = cs[q] := fun q h => by simp [List.getD, h]
    rw [e _ hj2]
    exact hs _ (List.getElem_mem hj2)
  have HNO : Hid (∀ j, j < s.size → ¬ ((byts s).getD j 0).toNat < cs.length → codedT s cs = none) := fun j hj h => by unfold codedT; rw [if_neg (fun k => h (k.1 j hj))]
  have HBIG : Hid (20000 < (catL (said s cs)).length → codedT s cs = none) := fun h => by unfold codedT; rw [if_neg (by omega)]
  have HOK : Hid ((∀ j, j < s.size → ((byts s).getD j 0).toNat < cs.length) → (catL (said s cs)).length ≤ 20000 → codedT s cs = some (asB (catL (said s cs)))) := fun h k => by unfold codedT; rw [if_pos ⟨h, k⟩]
  generalize codedT s cs = z at HNO HBIG HOK ⊢
  generalize said s cs = xs at hxl HX HS HBIG HOK
  have HT : Hid (∀ k, k < xs.length → catL (xs.take (k + 1)) = catL (xs.take k) ++ byts (xs.getD k ByteArray.empty)) := catL_take xs
  have HLE : Hid (∀ k, (catL (xs.take k)).length ≤ (catL xs).length) := catL_le xs
  have HALL : Hid (xs.take s.size = xs) := List.take_of_length_le (by omega)
  rw [hxl] at HT
  obtain ⟨n, hn⟩ : ∃ n, n = cs.length := ⟨_, rfl⟩
  rw [← hn] at hcap HX HS HNO HOK hl ⊢
  clear hx hla hs hn hxl
  go_enter Try.func32, Try.ntmps32
  go_wp2
  go_loop [6, 7] (fun q i => ∃ k m : Nat, k ≤ s.size ∧ i = .int .i64 k ∧ q = .int .i64 m ∧ m = (catL (xs.take k)).length ∧ m ≤ 20000 ∧ Hid (∀ j, j < k → ((byts s).getD j 0).toNat < n)) (fun _ i => s.size - (intOf i).toNat)
  case atStart => exact ⟨0, 0, Nat.zero_le _, rfl, rfl, rfl, Nat.zero_le _, fun j h => by omega⟩
  case round =>
    obtain ⟨k, m, hk, rfl, rfl, hm, hm2, hall⟩ := hrel
    by_cases hlt : k < s.size
    focus
      have hxk := str_at s k hlt
      have hr := byts_range s k
      have HXk := fun h => HX.out k hlt h
      have HSk := fun h => HS.out k hlt h
      have HNk : Hid (¬ ((byts s).getD k 0).toNat < n → z = none) := HNO.out k hlt
      have hnew : ((byts s).getD k 0).toNat < n → ∀ j, j < k + 1 → ((byts s).getD j 0).toNat < n := fun h j hj => by
        rcases Nat.lt_or_ge j k with h2 | h2
        · exact hall.out j h2
        · obtain rfl : j = k := by omega
          exact h
      have HNEW : Hid (((byts s).getD k 0).toNat < n → ∀ j, j < k + 1 → ((byts s).getD j 0).toNat < n) := hnew
      have hidx : (((byts s).getD k 0).toNat : Int) = (byts s).getD k 0 := by omega
      obtain ⟨y, hyy⟩ : ∃ y, y = ((byts s).getD k 0).toNat := ⟨_, rfl⟩
      rw [← hyy] at HXk HSk HNk HNEW hidx
      rw [← hidx] at hxk hr
      obtain ⟨_, hr1⟩ := hr
      have HT2 := HT.out k hlt
      have HLEk := HLE.out (k + 1)
      clear hnew hidx hyy hall
      by_cases hyn : y < n
      · obtain ⟨b, off, rfl, hbl, hc⟩ := HXk hyn
        have hsz := HSk hyn
        obtain ⟨x, hxx⟩ : ∃ x, x = xs.getD k ByteArray.empty := ⟨_, rfl⟩
        rw [← hxx] at hc hsz HT2
        have hml : (catL (xs.take (k + 1))).length = m + x.size := by rw [HT2, List.length_append, byts_len, ← hm]
        have HML : Hid ((catL (xs.take (k + 1))).length = m + x.size) := hml
        rw [hml] at HLEk
        have HLE2 : Hid (m + x.size ≤ (catL xs).length) := HLEk
        have HN2 : Hid (∀ j, j < k + 1 → ((byts s).getD j 0).toNat < n) := HNEW.out hyn
        clear hxx HT2 hml HLEk hm HXk HSk HNk HNEW
        by_cases hgt : 20000 < (m : Int) + (x.size : Int)
        · have hG := HBIG.out (by have := HLE2.out; omega)
          subst hG
          clear HX HS HNO HBIG HOK HT HLE HALL HN2
          go_wp2
          go_ret2
          exact ⟨rfl, Below.refl _ _⟩
        · go_wp2
          go_round
          case rel => exact ⟨k + 1, m + x.size, by omega, by go_num, by go_num, HML.out.symm, by omega, HN2.out⟩
          case measure => simp [intOf]; omega
      · have hG := HNk.out hyn
        subst hG
        have hyI : ¬ (y : Int) < (n : Int) := by omega
        clear HX HS HNO HBIG HOK HT HLE HALL HXk HSk HNk HNEW HT2 HLEk hm
        go_wp2
        go_ret2
        exact ⟨rfl, Below.refl _ _⟩
    obtain rfl : k = s.size := by omega
    have hmn : m = (catL xs).length := by rw [hm, HALL.out]
    have hG := HOK.out hall.out (by omega)
    subst hG
    have HLEN : Hid ((catL xs).length ≤ 20000) := by show _ ≤ _; omega
    clear hm hm2 hmn HBIG HOK HNO
    go_wp2
    go_loopw [8, 9] (fun v i wr => ∃ j : Nat, j ≤ s.size ∧ i = .int .i64 j ∧ wr.ownsRow w.heap.size 5 1 v (catL (xs.take j)).length (cellsByteS (catL (xs.take j))) ∧ Below w.heap.size w wr) (fun _ i _ => s.size - (intOf i).toNat)
    case atStart => exact ⟨0, Nat.zero_le _, rfl, World.ownsRow_lit w #[] 0 (Nat.le_refl _) (Nat.zero_le _) rfl, (Below.refl _ _).alloc (Nat.le_refl _) _⟩
    case round =>
      obtain ⟨j, hj, rfl, ho, hb⟩ := hrel
      by_cases hlt2 : j < s.size
      focus
        have hyn := hall.out j hlt2
        obtain ⟨b, off, rfl, hbl, hc0⟩ := HX.out j hlt2 hyn
        have hsz := HS.out j hlt2 hyn
        have hxk := str_at s j hlt2
        have hr := byts_range s j
        have hidx : (((byts s).getD j 0).toNat : Int) = (byts s).getD j 0 := by omega
        obtain ⟨y, hyy⟩ : ∃ y, y = ((byts s).getD j 0).toNat := ⟨_, rfl⟩
        rw [← hyy] at hyn hc0 hidx
        rw [← hidx] at hxk hr
        obtain ⟨_, hr1⟩ := hr
        have hc := (hb.cell (p := ⟨b, off + y, none⟩) hbl).trans hc0
        have HT2 := HT.out j hlt2
        have hle := HLE.out j
        have hlen := HLEN.out
        obtain ⟨x, hxx⟩ : ∃ x, x = xs.getD j ByteArray.empty := ⟨_, rfl⟩
        rw [← hxx] at hc hsz HT2
        have HT3 : Hid (catL (xs.take (j + 1)) = catL (xs.take j) ++ byts x) := HT2
        have hsb := hb.size
        obtain ⟨acc, hacc⟩ : ∃ acc, acc = catL (xs.take j) := ⟨_, rfl⟩
        rw [← hacc] at ho HT3 hle
        obtain ⟨N, hN⟩ : ∃ N, N = (catL xs).length := ⟨_, rfl⟩
        rw [← hN] at hle hlen
        clear hxx HT2 hc0 hacc hN hidx hyy
        go_wp2_with (at_builtin; refine Lib.wpList_append_own_string _ rfl _ _ 22 9 rfl w.heap.size 5 i0 Try.underlying22 Try.underlying9 hi hz0 hz1 hz2 _ _ _ rfl ho x rfl ?c3 ?c4 ?c5 ?_)
        case c3 => unfold maxLen; omega
        case c4 => omega
        case c5 => omega
        intro v3 w3 ho3 hg3 _
        have hb3 : Below w.heap.size w w3 := hb.grown hg3 hb.size (fun k hk => (ho.lt k hk).1)
        have ho4 : w3.ownsRow w.heap.size 5 1 v3 (catL (xs.take (j + 1))).length (cellsByteS (catL (xs.take (j + 1)))) := by
          rw [HT3.out, List.length_append, byts_len, cellsByteS, List.map_append]
          rw [strCells_eq] at ho3
          exact ho3
        clear ho3 hg3 ho hb hc hsz
        go_wp2
        go_roundw
        case rel => exact ⟨j + 1, by omega, by go_num, ho4, hb3⟩
        case measure => simp [intOf]; omega
      obtain rfl : j = s.size := by omega
      rw [HALL.out] at ho
      have hso := str_own ho (catL_bytes xs)
      obtain ⟨z, hz⟩ : ∃ z, z = asB (catL xs) := ⟨_, rfl⟩
      have HZ : Hid (asB (catL xs) = z) := hz.symm
      rw [← hz] at hso
      clear hz ho HX HS HT
      go_wp2
      go_ret2
      exact ⟨by rw [HZ.out]; rfl, hb⟩

end Go.Proofs.Ytiflpnmkclcimab
