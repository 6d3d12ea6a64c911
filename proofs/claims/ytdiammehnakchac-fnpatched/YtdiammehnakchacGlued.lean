/- CONTRACTS: texts one behind the other: spec.Glued, impl.Glued. -/
import Derived.Test.YtdiammehnakchacOwn
import Derived.Test.YtdiammehnakchacCat
import Derived.Lib.AppendStr
import Derived.Lib.BufferWrite
import Derived.Laws.MakeOwn
namespace Go.Proofs.Ytdiammehnakchac
open Go.RowKit

/-- what Glued tells -/
def gluedB (xs : List ByteArray) : ByteArray := if (catL xs).length ≤ 20000 then asB (catL xs) else ⟨#[]⟩

/-- 'row[p:]' of a whole row -/
theorem slice_tail (g n p : Nat) (hp : p ≤ n) : ∃ a, (p < n → a = ⟨g, p, none⟩) ∧
    ∀ W : World, (Instr.slice 22 (.slice (some ⟨g, 0, none⟩) n n) (some (.int .i64 (p : Int))) none none).run Try.prog W = .ok (.slice (some a) (n - p) (n - p)) W := by
  obtain ⟨i0, hi, hz0, hz1, hz2⟩ := info_parts Try.infoB
  have hel : Try.prog.elem 22 = 5 := by kernel_rfl
  have hsz : ∀ W : World, (sizeOf 5).run Try.prog W = .ok 1 W := fun W => by simp [sizeOf, typeInfo, hi, hz1]
  by_cases hcp : n = p
  · refine ⟨⟨g, 0, none⟩, fun h => by omega, fun W => ?_⟩
    rw [run_slice_l W 22 _ n n (by rw [hel]; exact Try.underlying22) .i64 _ (by omega) (by omega), hel, hsz]
    simp [Result.andThen, sliced, hcp]
  · refine ⟨⟨g, p, none⟩, fun _ => rfl, fun W => ?_⟩
    rw [run_slice_l W 22 _ n n (by rw [hel]; exact Try.underlying22) .i64 _ (by omega) (by omega), hel, hsz]
    simp [Result.andThen, sliced, hcp]
    exact (Addr.add_lit ..).trans (by rw [Nat.zero_add])

set_option maxHeartbeats 4000000 in
set_option maxRecDepth 100000 in
theorem implGlued_any (va : Value) (xs : List ByteArray) (w : World) (ha : Rd w va (cellsS xs)) (hl : xs.length ≤ 1099511627776) (hs : ∀ s ∈ xs, s.size ≤ 1099511627776) :
    Calls Try.prog 18 #[va] w fun e w' => e = .returned (.string (gluedB xs)) ∧ Below w.heap.size w w' := by
  obtain ⟨i0, hi, hz0, hz1, hz2⟩ := info_parts Try.infoB
  have hla : (cellsS xs).length = xs.length := by simp
  obtain ⟨ao, cap, rfl, hcap, hx⟩ := ha
  rw [hla] at hcap hx ⊢
  have HX : Hid (∀ j, j < xs.length → ∃ b off, ao = some ⟨b, off, none⟩ ∧ b < w.heap.size ∧ w.cell? ⟨b, off + j, none⟩ = some (.string (xs.getD j ByteArray.empty))) := fun j hj => by
    obtain ⟨b, off, h1, h2, h3⟩ := hx (by intro h; rw [h] at hla; simp at hla; omega)
    exact ⟨b, off, h1, h2, (h3 j hj).trans (strs_get xs j hj)⟩
  have HS : Hid (∀ j, j < xs.length → (xs.getD j ByteArray.empty).size ≤ 1099511627776) := fun j hj => by
    have e : xs.getD j ByteArray.empty = xs[j] := by simp [List.getD, hj]
    rw [e]
    exact hs _ (List.getElem_mem hj)
  have HT : Hid (∀ k, k < xs.length → catL (xs.take (k + 1)) = catL (xs.take k) ++ byts (xs.getD k ByteArray.empty)) := catL_take xs
  have HLE : Hid (∀ k, (catL (xs.take k)).length ≤ (catL xs).length) := catL_le xs
  have HALL : Hid (xs.take xs.length = xs) := List.take_of_length_le (Nat.le_refl _)
  have HBIG : Hid (20000 < (catL xs).length → gluedB xs = ⟨#[]⟩) := fun h => by unfold gluedB; rw [if_neg (by omega)]
  have HOK : Hid ((catL xs).length ≤ 20000 → gluedB xs = asB (catL xs)) := fun h => by unfold gluedB; rw [if_pos h]
  obtain ⟨n, hn⟩ : ∃ n, n = xs.length := ⟨_, rfl⟩
  rw [← hn] at hcap HX HS HT HALL hl ⊢
  clear hx hla hs hn
  go_enter Try.func18, Try.ntmps18
  go_wp2
  go_loop [3, 12] (fun q i => ∃ k m : Nat, k ≤ n ∧ i = .int .i64 k ∧ q = .int .i64 m ∧ m = (catL (xs.take k)).length ∧ m ≤ 20000) (fun _ i => n - (intOf i).toNat)
  case atStart => exact ⟨0, 0, Nat.zero_le _, rfl, rfl, rfl, Nat.zero_le _⟩
  case round =>
    obtain ⟨k, m, hk, rfl, rfl, hm, hm2⟩ := hrel
    by_cases hlt : k < n
    focus
      obtain ⟨b, off, rfl, hbl, hc⟩ := HX.out k hlt
      have hsz := HS.out k hlt
      have HT2 := HT.out k hlt
      obtain ⟨x, hxx⟩ : ∃ x, x = xs.getD k ByteArray.empty := ⟨_, rfl⟩
      rw [← hxx] at hc hsz HT2
      have hml : (catL (xs.take (k + 1))).length = m + x.size := by rw [HT2, List.length_append, byts_len, ← hm]
      have HML : Hid ((catL (xs.take (k + 1))).length = m + x.size) := hml
      have HLEk := HLE.out (k + 1)
      rw [hml] at HLEk
      have HLE2 : Hid (m + x.size ≤ (catL xs).length) := HLEk
      clear hxx HT2 hml HLEk hm
      by_cases hgt : 20000 - (m : Int) < (x.size : Int)
      · have HG : Hid (gluedB xs = ⟨#[]⟩) := HBIG.out (by have := HLE2.out; omega)
        go_wp2
        go_ret
        exact ⟨by rw [HG.out]; rfl, Below.refl _ _⟩
      · go_wp2
        go_round
        case rel => exact ⟨k + 1, m + x.size, by omega, by go_num, by go_num, HML.out.symm, by omega⟩
        case measure => simp [intOf]; omega
    obtain rfl : k = n := by omega
    have hmn : m = (catL xs).length := by rw [hm, HALL.out]
    have HG : Hid (gluedB xs = asB (catL xs)) := HOK.out (by omega)
    have HLEN : Hid ((catL xs).length = m) := hmn.symm
    have hM : ∀ W : World, (Instr.makeSlice 22 (.int .i64 (m : Int)) (.int .i64 (m : Int))).run Try.prog W = .ok (.slice (some ⟨W.heap.size, 0, none⟩) m m) (W.alloc (.cells (madeCells (Value.int .u8 0).cells (((m : Nat) : Int).toNat * i0.size)) 5)) := fun W => by
      have h := run_make (P := Try.prog) W 22 5 i0 (.int .u8 0) Try.underlying22 hi hz0 .i64 .i64 (m : Int) (m : Int) (by omega) (by omega) (by rw [hz2]; omega) (by omega)
      simpa using h
    obtain ⟨M, hMM⟩ : ∃ M, M = madeCells (Value.int .u8 0).cells (((m : Nat) : Int).toNat * i0.size) := ⟨_, rfl⟩
    rw [← hMM] at hM
    have hMs : M.size = m := by rw [hMM, size_madeCells, hz1]; simp
    clear hm hmn HBIG HOK hMM
    have hg0 := heap_alloc_new w (.cells M 5)
    have hB0 := (Below.refl w.heap.size w).alloc (Nat.le_refl _) (.cells M 5)
    have hinfo : (Try.prog.info? 5).map (·.size) = some 1 := by rw [hi]; simp [hz1]
    go_wp2
    go_loopw [7, 30] (fun q i wr => ∃ j a : Nat, j ≤ k ∧ i = .int .i64 j ∧ q = .int .i64 a ∧ a = (catL (xs.take j)).length ∧ Hid (∃ cur : Array Value, wr.heap[w.heap.size]? = some (.cells cur 5 (0, 0)) ∧ cur.size = m ∧ cur.toList.take a = cellsByteS (catL (xs.take j))) ∧ Below w.heap.size w wr) (fun _ i _ => k - (intOf i).toNat)
    case atStart => exact ⟨0, 0, Nat.zero_le _, rfl, rfl, rfl, ⟨M, hg0, hMs, rfl⟩, hB0⟩
    case round =>
      obtain ⟨j, a, hj, rfl, rfl, ha, hcur, hb⟩ := hrel
      clear hg0 hB0 hM hMs
      obtain ⟨cur, hgc, hcs, hct⟩ := hcur.out
      by_cases hlt2 : j < k
      focus
        obtain ⟨b, off, rfl, hbl, hc0⟩ := HX.out j hlt2
        have hc := (hb.cell (p := ⟨b, off + j, none⟩) hbl).trans hc0
        have hsz := HS.out j hlt2
        have HT2 := HT.out j hlt2
        have hle := HLE.out (j + 1)
        rw [HLEN.out] at hle
        obtain ⟨x, hxx⟩ : ∃ x, x = xs.getD j ByteArray.empty := ⟨_, rfl⟩
        rw [← hxx] at hc hsz HT2
        have HT3 : Hid (catL (xs.take (j + 1)) = catL (xs.take j) ++ byts x) := HT2
        rw [HT2, List.length_append, byts_len, ← ha] at hle
        have HA : Hid (a = (catL (xs.take j)).length) := ha
        have HCT : Hid (cur.toList.take a = cellsByteS (catL (xs.take j))) := hct
        obtain ⟨ad, hadp, hsl⟩ := slice_tail w.heap.size m a (by omega)
        have hcp : ∃ wr', (Builtin.copy_ #[22, 9] 3 #[.slice (some ad) (m - a) (m - a), .string x]).run Try.prog wr = .ok (goInt x.size) wr' ∧
            (∃ cur' : Array Value, wr'.heap[w.heap.size]? = some (.cells cur' 5 (0, 0)) ∧ cur'.size = m ∧ cur'.toList.take (a + x.size) = cellsByteS (catL (xs.take j) ++ byts x)) ∧ Below w.heap.size w wr' := by
          by_cases hx0 : x.size = 0
          · refine ⟨wr, ?_, ⟨cur, hgc, hcs, ?_⟩, hb⟩
            · rw [hx0]
              exact Lib.run_copy_empty_string (P := Try.prog) wr 22 9 3 5 _ _ _ x Try.underlying22 (by rw [hinfo]; rfl) hx0
            · have hb0 : byts x = [] := List.eq_nil_of_length_eq_zero (by rw [byts_len]; exact hx0)
              rw [hx0, hb0, List.append_nil, Nat.add_zero]
              exact hct
          · obtain rfl := hadp (by omega)
            refine ⟨_, Lib.run_copy_row_string (P := Try.prog) wr 22 9 3 5 w.heap.size a (m - a) (m - a) x cur 5 Try.underlying22 hinfo hgc (by omega) (by omega), ⟨_, setRow_heap _ _ cur _ 5 (0, 0) hgc, ?_, ?_⟩, ?_⟩
            · have h1 : cur.toList.length = m := by rw [Array.length_toList]; exact hcs
              have h2 : (Lib.byteCells x.data.toList).length = x.size := by rw [Lib.byteCells_length, ← Lib.size_eq]
              rw [← Array.length_toList, List.toList_toArray, List.length_append, List.length_append, List.length_take, List.length_drop, h1, h2]
              omega
            · have h1 : cur.toList.length = m := by rw [Array.length_toList]; exact hcs
              have h2 : (Lib.byteCells x.data.toList).length = x.size := by rw [Lib.byteCells_length, ← Lib.size_eq]
              have h3 : Lib.byteCells x.data.toList = cellsByteS (byts x) := strCells_eq x
              rw [List.toList_toArray, List.take_append_of_le_length (by rw [List.length_append, List.length_take, h1, h2]; omega), List.take_of_length_le (by rw [List.length_append, List.length_take, h1, h2]; omega), hct, h3, cellsByteS, ← List.map_append]
            · exact hb.trans ⟨rfl, rfl, rfl, by simp, fun q hq => setRow_other _ _ _ _ (by omega)⟩
        obtain ⟨wr', hcp1, hcur', hb'⟩ := hcp
        have HCUR : Hid (∃ cur' : Array Value, wr'.heap[w.heap.size]? = some (.cells cur' 5 (0, 0)) ∧ cur'.size = m ∧ cur'.toList.take (a + x.size) = cellsByteS (catL (xs.take j) ++ byts x)) := hcur'
        have HAX : Hid (a + x.size = (catL (xs.take (j + 1))).length) := by show _ = _; rw [HT3.out, List.length_append, byts_len, ← HA.out]
        clear hxx HT2 hc0 hct hcs hgc hcur hcur' ha hadp hb
        go_wp2
        go_roundw
        case rel => exact ⟨j + 1, a + x.size, by omega, by go_num, by go_num, HAX.out, by rw [HT3.out]; exact HCUR, hb'⟩
        case measure => simp [intOf]; omega
      obtain rfl : j = k := by omega
      rw [HALL.out] at hct ha
      have hlen : (catL xs).length = m := HLEN.out
      have hcells : ∀ q u, (cellsByteS (catL xs))[q]? = some u → wr.cell? ((⟨w.heap.size, 0, none⟩ : Addr).add q) = some u := fun q u hq => by
        have e : (⟨w.heap.size, 0, none⟩ : Addr).add q = ⟨w.heap.size, 0 + q, none⟩ := Addr.add_lit ..
        rw [e, Nat.zero_add, Lib.cell_of_heap hgc, ← hq, ← hct, List.take_of_length_le (by rw [Array.length_toList]; omega), Array.getElem?_toList]
      have hgl : w.heap.size < wr.heap.size := (Array.getElem?_eq_some_iff.1 hgc).1
      have hby := catL_bytes xs
      clear hct hgc hcs hcur HX HS HT
      go_wp2_with fail
      refine (ownText_any ⟨w.heap.size, 0, none⟩ m m (catL xs) wr hlen hby hcells hgl (by omega)).mono ?_
      rintro e w9 ⟨rfl, hb9⟩
      have hB9 := hb.trans (hb9.mono hb.size)
      rw [← HG.out]
      clear hcells hby hb hb9
      go_wp2
      go_ret
      exact ⟨rfl, hB9⟩

end Go.Proofs.Ytdiammehnakchac
