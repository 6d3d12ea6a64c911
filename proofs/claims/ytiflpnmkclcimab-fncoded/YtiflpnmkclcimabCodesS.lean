/- CONTRACTS: the specification's Codes. -/
import Derived.Test.YtiflpnmkclcimabShort
import Derived.Test.YtiflpnmkclcimabCat
import Derived.Laws.MakeOwn
import Derived.OneCell
import Derived.OwnWalk
namespace Go.Proofs.Ytiflpnmkclcimab
open Go.RowKit
set_option linter.unusedVariables false

def lenN (l : List Int) : Nat → Nat := fun i => (l.getD i 0).toNat
def codeB (l : List Int) (i : Nat) : ByteArray := asB (Huff.bitsF (lenN l i) (Huff.startF (lenN l) l.length i))
/-- the codes of the lengths -/
def codesI (l : List Int) : List ByteArray := (List.range l.length).map (codeB l)
def codesT (l : List Int) : List ByteArray := if kraftB l = true then codesI l else []
/-- those that are told so far -/
def outF (l : List Int) (n i : Nat) : List ByteArray := (List.range l.length).map fun j => if Huff.before2 (lenN l) n i j then codeB l j else ⟨#[]⟩
theorem outF_len (l : List Int) (n i : Nat) : (outF l n i).length = l.length := by simp [outF]
theorem outF_hit {l : List Int} {n i : Nat} (hi : i < l.length) (h : lenN l i = n) : outF l n (i + 1) = (outF l n i).set i (codeB l i) := by
  apply List.ext_getElem
  · simp [outF]
  · intro j h1 h2
    have e : ∀ i (h : j < (outF l n i).length), (outF l n i)[j] = if Huff.before2 (lenN l) n i j then codeB l j else ⟨#[]⟩ := fun i h => by simp [outF]
    rw [List.getElem_set, e, e _ (by rw [List.length_set] at h2; exact h2)]
    by_cases e : i = j
    · subst e
      rw [if_pos rfl, if_pos (show Huff.before2 (lenN l) n (i + 1) i from Or.inr ⟨h, by omega⟩)]
    · rw [if_neg e]
      have hiff : Huff.before2 (lenN l) n (i + 1) j ↔ Huff.before2 (lenN l) n i j := by unfold Huff.before2; omega
      simp only [hiff]
theorem outF_miss {l : List Int} {n i : Nat} (h : ¬ lenN l i = n) : outF l n (i + 1) = outF l n i := by
  unfold outF
  simp only [Huff.before2_miss h]
theorem outF_wrap (l : List Int) (n : Nat) : outF l n l.length = outF l (n + 1) 0 := by
  unfold outF
  refine List.map_congr_left fun j hj => ?_
  simp only [Huff.before2_wrap (List.mem_range.1 hj)]
theorem outF_start {l : List Int} (h : ∀ j, j < l.length → 1 ≤ lenN l j) : outF l 1 0 = List.replicate l.length ⟨#[]⟩ := by
  unfold outF
  rw [List.map_congr_left (g := fun _ => (⟨#[]⟩ : ByteArray)) fun j hj => by
    have := h j (List.mem_range.1 hj)
    rw [if_neg (by unfold Huff.before2; omega)], List.map_const', List.length_range]
theorem outF_end {l : List Int} (h : ∀ j, j < l.length → lenN l j ≤ 40) : outF l 41 0 = codesI l := by
  unfold outF codesI
  refine List.map_congr_left fun j hj => ?_
  have := h j (List.mem_range.1 hj)
  rw [if_pos (by unfold Huff.before2; omega)]
theorem bits_step (n v k : Nat) (hk : k < n) : (cellsByteS ((Huff.bitsF n v).take k ++ List.replicate (n - k) 0)).set k (.int .u8 ((48 + v / 2 ^ (39 - k) % 2 : Nat) : Int)) = cellsByteS ((Huff.bitsF n v).take (k + 1) ++ List.replicate (n - (k + 1)) 0) := by
  have hl := Huff.bitsF_len n v
  rw [take_snoc _ 0 k (by omega), Huff.bitsF_get v hk]
  rw [show n - k = (n - (k + 1)) + 1 by omega, List.replicate_succ]
  have hk2 : ((Huff.bitsF n v).take k).length = k := by rw [List.length_take]; omega
  simp only [cellsByteS, List.map_append, List.map_cons, List.set_append, List.length_map, hk2, Nat.lt_irrefl, if_false, Nat.sub_self, List.set_cons_zero, List.append_assoc, List.nil_append, List.cons_append]
theorem bits_bytes (n v : Nat) : Bytes (Huff.bitsF n v) := fun x hx => by
  unfold Huff.bitsF at hx
  obtain ⟨k, _, rfl⟩ := List.mem_map.1 hx
  have : v / 2 ^ (39 - k) % 2 < 2 := Nat.mod_lt _ (by omega)
  show 0 ≤ ((48 + v / 2 ^ (39 - k) % 2 : Nat) : Int) ∧ ((48 + v / 2 ^ (39 - k) % 2 : Nat) : Int) ≤ 255
  omega

theorem shr_nat (p k : Nat) : (p : Int) / 2 ^ (39 - k) = ((p / 2 ^ (39 - k) : Nat) : Int) := by
  rw [Int.natCast_ediv, Int.natCast_pow]
  rfl
theorem add_in {p q : Nat} (h1 : p ≤ 1099511627776) (h2 : q ≤ 549755813888) : wrap64 ((p : Int) + (q : Int)) = ((p + q : Nat) : Int) := by
  rw [IntWalk.wrap64_in _ ⟨by omega, by omega⟩, Int.natCast_add]
theorem tmod_two (y : Nat) : ((y : Int)).tmod 2 = ((y % 2 : Nat) : Int) := by
  rw [Int.tmod_eq_emod_of_nonneg (by omega)]
  omega

set_option maxHeartbeats 4000000 in
set_option maxRecDepth 100000 in
theorem specCodes_any (va : Value) (l : List Int) (w : World) (ha : Rd w va (cellsInt64S l)) (hll : l.length ≤ 1099511627776) :
    Calls Try.prog 34 #[va] w fun e w' => ∃ v, e = .returned v ∧ w'.ownsRow w.heap.size 9 1 v (codesT l).length (cellsS (codesT l)) ∧ Below w.heap.size w w' := by
  obtain ⟨i0, hi, hz0, hz1, hz2⟩ := info_parts Try.infoS
  obtain ⟨j0, hj, hy0, hy1, hy2⟩ := info_parts Try.infoB
  have H1 := specKraft_any va l _ (rd_below ha ((Below.refl w.heap.size w).alloc (Nat.le_refl _) (.cells #[] 9))) hll
  have hlA : (cellsInt64S l).length = l.length := by simp
  obtain ⟨ao, cap, rfl, hcap, hx⟩ := ha
  rw [hlA] at hcap hx H1 ⊢
  have HX : Hid (∀ j, j < l.length → ∃ b off, ao = some ⟨b, off, none⟩ ∧ b < w.heap.size ∧ w.cell? ⟨b, off + j, none⟩ = some (.int .i64 (l.getD j 0))) := fun j hj => by
    obtain ⟨b, off, h1, h2, h3⟩ := hx (by intro h; rw [h] at hlA; simp at hlA; omega)
    exact ⟨b, off, h1, h2, (h3 j hj).trans (ints_get _ l j hj)⟩
  clear hx hlA
  cases hkb : kraftB l
  focus
    have e : codesT l = [] := by unfold codesT; rw [if_neg (by rw [hkb]; simp)]
    rw [hkb] at H1
    rw [e]
    have hB := (Below.refl w.heap.size w).alloc (Nat.le_refl _) (.cells #[] 9)
    have ho : (w.alloc (.cells #[] 9)).ownsRow w.heap.size 9 1 (.slice (some ⟨w.heap.size, 0, none⟩) 0 0) 0 (cellsS []) := World.ownsRow_lit w #[] 0 (Nat.le_refl _) (Nat.zero_le _) rfl
    clear HX hkb e
    go_enter Try.func34, Try.ntmps34
    go_wp2_with fail
    refine H1.mono ?_
    rintro e u ⟨rfl, hu⟩
    replace hu := hu.symm
    subst hu
    clear H1
    go_wp2
    go_ret
    exact ⟨_, rfl, ho, hB⟩
  have hkk := hkb
  unfold kraftB at hkk
  rw [Bool.and_eq_true, decide_eq_true_eq] at hkk
  obtain ⟨hal, hkl⟩ := hkk
  obtain ⟨⟨hl1, hl32⟩, hall⟩ := allIn_out hal
  have e : codesT l = codesI l := by unfold codesT; rw [if_pos hkb]
  have hLN : ∀ j, j < l.length → 1 ≤ lenN l j ∧ lenN l j ≤ 40 ∧ l.getD j 0 = (lenN l j : Int) := fun j hj => by
    have := hall j hj
    unfold lenN
    omega
  have HLN : Hid (∀ j, j < l.length → 1 ≤ lenN l j ∧ lenN l j ≤ 40 ∧ l.getD j 0 = (lenN l j : Int)) := hLN
  have HNLE : Hid (∀ n i, Huff.nextF (lenN l) l.length n i ≤ 1099511627776) := fun n i => Nat.le_trans (Huff.nextF_le _ _ _ _) hkl
  have HHIT : Hid (∀ n i, i < l.length → lenN l i = n → Huff.nextF (lenN l) l.length n (i + 1) = Huff.nextF (lenN l) l.length n i + 2 ^ (40 - n) ∧ outF l n (i + 1) = (outF l n i).set i (asB (Huff.bitsF n (Huff.nextF (lenN l) l.length n i)))) := fun n i h1 h2 => by
    subst h2
    exact ⟨Huff.nextF_hit h1 rfl, outF_hit h1 rfl⟩
  have HMISS : Hid (∀ n i, ¬ lenN l i = n → Huff.nextF (lenN l) l.length n (i + 1) = Huff.nextF (lenN l) l.length n i ∧ outF l n (i + 1) = outF l n i) := fun n i h => ⟨Huff.nextF_miss h, outF_miss h⟩
  have HWRAP : Hid (∀ n, Huff.nextF (lenN l) l.length n l.length = Huff.nextF (lenN l) l.length (n + 1) 0 ∧ outF l n l.length = outF l (n + 1) 0) := fun n => ⟨Huff.nextF_wrap _ _ _, outF_wrap l n⟩
  have HST : Hid (Huff.nextF (lenN l) l.length 1 0 = 0 ∧ outF l 1 0 = List.replicate l.length ⟨#[]⟩) := ⟨Huff.nextF_zero fun j hj => (hLN j hj).1, outF_start fun j hj => (hLN j hj).1⟩
  have HEN : Hid (outF l 41 0 = codesI l) := outF_end fun j hj => (hLN j hj).2.1
  have HOL : Hid (∀ n i, (outF l n i).length = l.length) := outF_len l
  have HCL : Hid ((codesI l).length = l.length) := by show _ = _; simp [codesI]
  rw [hkb] at H1
  rw [e]
  generalize codesI l = CD at HEN HCL ⊢
  generalize outF l = OF at HHIT HMISS HWRAP HST HEN HOL
  generalize Huff.nextF (lenN l) l.length = NF at HNLE HHIT HMISS HWRAP HST
  generalize lenN l = LN at HLN HHIT HMISS
  obtain ⟨N, hN⟩ : ∃ N, N = l.length := ⟨_, rfl⟩
  rw [← hN] at hcap HX H1 HLN HHIT HWRAP HST HOL HCL hl1 hl32 hll ⊢
  clear hall hLN hal hkl hkb e hN
  have hB := (Below.refl w.heap.size w).alloc (Nat.le_refl _) (.cells #[] 9)
  go_enter Try.func34, Try.ntmps34
  go_wp2_with fail
  refine H1.mono ?_
  rintro e u ⟨rfl, hu⟩
  replace hu := hu.symm
  subst hu
  clear H1
  have hsz1 := hB.size
  generalize w.alloc (.cells #[] 9) = w1 at hB hsz1 ⊢
  go_wp2_with (at_make; refine wpList_make_full _ rfl _ _ 44 rfl w.heap.size 9 i0 (.string ⟨#[]⟩) 1 Try.underlying44 hi hz0 hz1 _ _ _ _ N rfl rfl (by omega) (by omega) (by rw [hz2]; omega) (by unfold maxLen; omega) ?e1 ?_)
  case e1 => exact hsz1
  intro w2 ho2 hg2
  have hB2 : Below w.heap.size w w2 := hB.grown hg2 hsz1 (fun q hq => by cases hq)
  have ho3 : w2.ownsRow w.heap.size 9 1 (.slice (some ⟨w1.heap.size, 0, none⟩) N N) N (cellsS (OF 1 0)) := by
    rw [HST.out.2]
    have h := ho2
    rw [toList_madeCells_one] at h
    simpa using h
  have hn0 := HST.out.1
  clear ho2 hg2 hB HST
  go_wp2
  go_loopw [4, 5] (fun q i wr => ∃ n : Nat, i = .int .i64 n ∧ q = .int .i64 (NF n 0) ∧ 1 ≤ n ∧ n ≤ 41 ∧ wr.ownsRow w.heap.size 9 1 (.slice (some ⟨w1.heap.size, 0, none⟩) N N) N (cellsS (OF n 0)) ∧ Below w.heap.size w wr) (fun _ i _ => 41 - (intOf i).toNat)
  case atStart => exact ⟨1, rfl, by rw [hn0]; rfl, Nat.le_refl _, by omega, ho3, hB2⟩
  case round =>
    obtain ⟨n, rfl, rfl, hn1, hn2, ho, hb⟩ := hrel
    clear ho3 hB2
    by_cases hn40 : n ≤ 40
    focus
      have hnI : (n : Int) ≤ 40 := by omega
      go_wp2
      go_loopw [4, 6] (fun q i w3 => ∃ k : Nat, i = .int .i64 k ∧ q = .int .i64 (NF n k) ∧ k ≤ N ∧ w3.ownsRow w.heap.size 9 1 (.slice (some ⟨w1.heap.size, 0, none⟩) N N) N (cellsS (OF n k)) ∧ Below w.heap.size w w3) (fun _ i _ => N - (intOf i).toNat)
      case atStart => exact ⟨0, rfl, rfl, Nat.zero_le _, ho, hb⟩
      case round =>
        clear ho hb
        rename World => w3
        obtain ⟨k, rfl, rfl, hk, ho, hb⟩ := hrel
        have hnx := HNLE.out n k
        by_cases hlt : k < N
        focus
          obtain ⟨b, off, rfl, hbl, hc0⟩ := HX.out k hlt
          have hc := (hb.cell (p := ⟨b, off + k, none⟩) hbl).trans hc0
          obtain ⟨hq1, hq2, hq3⟩ := HLN.out k hlt
          rw [hq3] at hc
          have hHT := HHIT.out n k hlt
          have hMS := HMISS.out n k
          obtain ⟨x, hxx⟩ : ∃ x, x = LN k := ⟨_, rfl⟩
          rw [← hxx] at hc hHT hMS hq1 hq2
          clear hxx hq3 hc0
          by_cases hxn : x = n
          focus
            obtain ⟨e1, e2⟩ := hHT hxn
            clear hHT hMS
            subst hxn
            have hne : ((x : Int) != (x : Int)) = false := by simp
            obtain ⟨p, hp⟩ : ∃ p, p = NF x k := ⟨_, rfl⟩
            rw [← hp] at e1 e2 hnx ⊢
            have E1 : Hid (NF x (k + 1) = p + 2 ^ (40 - x)) := e1
            have E2 : Hid (OF x (k + 1) = (OF x k).set k (asB (Huff.bitsF x p))) := e2
            have hsz := hb.size
            clear e1 e2 hp
            go_wp2_with (at_make; refine wpList_make_full _ rfl _ _ 22 rfl w3.heap.size 5 j0 (.int .u8 0) 1 Try.underlying22 hj hy0 hy1 _ _ _ _ x rfl rfl (by omega) (by omega) (by rw [hy2]; omega) (by unfold maxLen; omega) ?e1 ?_)
            case e1 => exact Nat.le_refl _
            intro w4 ho4 hg4
            have hb4 : Below w3.heap.size w3 w4 := (Below.refl _ _).grown hg4 (Nat.le_refl _) (fun q hq => by cases hq)
            have ho5 : w4.ownsRow w3.heap.size 5 1 (.slice (some ⟨w3.heap.size, 0, none⟩) x x) x (cellsByteS ((Huff.bitsF x p).take 0 ++ List.replicate (x - 0) 0)) := by
              have h := ho4
              rw [toList_madeCells_one] at h
              simpa using h
            clear ho4 hg4
            go_wp2
            go_loopw [8] (fun i w5 => ∃ m : Nat, i = .int .i64 m ∧ m ≤ x ∧ w5.ownsRow w3.heap.size 5 1 (.slice (some ⟨w3.heap.size, 0, none⟩) x x) x (cellsByteS ((Huff.bitsF x p).take m ++ List.replicate (x - m) 0)) ∧ Below w3.heap.size w3 w5) (fun i _ => x - (intOf i).toNat)
            case atStart => exact ⟨0, rfl, Nat.zero_le _, ho5, hb4⟩
            case round =>
              clear ho5 hb4
              rename World => w5
              obtain ⟨m, rfl, hm, ho5, hb5⟩ := hrel
              by_cases hmx : m < x
              focus
                have hlen5 : ((Huff.bitsF x p).take m ++ List.replicate (x - m) 0).length = x := by
                  rw [List.length_append, List.length_take, Huff.bitsF_len, List.length_replicate]
                  omega
                have hc5 : w5.cell? ⟨w3.heap.size, m, none⟩ = some (.int .u8 (((Huff.bitsF x p).take m ++ List.replicate (x - m) 0).getD m 0)) := (ho5.cellAt m (by omega)).trans (ints_get _ _ m (by omega))
                have hf5 := ho5.frozenAt m
                have hst5 := ho5.stored m (.int .u8 ((48 + p / 2 ^ (39 - m) % 2 : Nat) : Int))
                rw [bits_step x p m hmx] at hst5
                obtain ⟨hs1, _⟩ := hst5
                obtain ⟨u, hu⟩ : ∃ u, u = Value.int .u8 (((Huff.bitsF x p).take m ++ List.replicate (x - m) 0).getD m 0) := ⟨_, rfl⟩
                rw [← hu] at hc5
                have hshr := shr_nat p m
                obtain ⟨y, hy⟩ : ∃ y, y = p / 2 ^ (39 - m) := ⟨_, rfl⟩
                rw [← hy] at hshr hs1
                have htm := tmod_two y
                obtain ⟨z, hz⟩ : ∃ z, z = y % 2 := ⟨_, rfl⟩
                rw [← hz] at htm hs1
                have hz2 : z < 2 := by rw [hz]; exact Nat.mod_lt _ (by omega)
                have hmod : ((48 + z : Nat) : Int) = 48 + (z : Int) := by omega
                rw [hmod] at hs1
                have hb6 : Below w3.heap.size w3 (w5.setCell ⟨w3.heap.size, m, none⟩ (.int .u8 (48 + (z : Int)))) := hb5.setCell (Nat.le_refl _) _
                clear hz
                clear hu hy ho5 hmod
                go_wp2
                go_roundw
                case rel => exact ⟨m + 1, by go_num, by omega, hs1, hb6⟩
                case measure => simp [intOf]; omega
              obtain rfl : m = x := by omega
              rw [Nat.sub_self, List.replicate_zero, List.append_nil, List.take_of_length_le (by rw [Huff.bitsF_len]; exact Nat.le_refl _)] at ho5
              have hbl5 := Huff.bitsF_len m p
              have hso := str_own (zs := Huff.bitsF m p) (by rw [hbl5]; exact ho5) (bits_bytes m p)
              have hoo := owns_below ho hb5
              obtain ⟨t, ht⟩ : ∃ t, t = asB (Huff.bitsF m p) := ⟨_, rfl⟩
              rw [← ht] at hso E2
              have hco : w5.cell? ⟨w1.heap.size, k, none⟩ = some (.string ((OF m k).getD k ByteArray.empty)) := (hoo.cellAt k (by omega)).trans (strs_get _ k (by rw [HOL.out]; exact hlt))
              have hfo := hoo.frozenAt k
              have hst := hoo.stored k (.string t)
              have hset : (cellsS (OF m k)).set k (.string t) = cellsS (OF m (k + 1)) := by
                rw [E2.out]
                simp [cellsS, List.map_set]
              rw [hset] at hst
              obtain ⟨hs1, _⟩ := hst
              have hB6 : Below w.heap.size w (w5.setCell ⟨w1.heap.size, k, none⟩ (.string t)) := (hb.trans (hb5.mono hb.size)).setCell hsz1 _
              obtain ⟨hw, hq1, hq2⟩ := shl_one (x := (m : Int)) (by omega) (by omega)
              rw [Int.toNat_natCast] at hw hq1 hq2
              rw [show (40 - (m : Int)).toNat = 40 - m by omega] at hw
              obtain ⟨q, hq⟩ : ∃ q, q = 2 ^ (40 - m) := ⟨_, rfl⟩
              rw [← hq] at hw hq1 hq2 E1
              have hadd : wrap64 ((p : Int) + (q : Int)) = ((p + q : Nat) : Int) := add_in hnx hq2
              obtain ⟨u, hu⟩ : ∃ u, u = (OF m k).getD k ByteArray.empty := ⟨_, rfl⟩
              rw [← hu] at hco
              clear ho5 hbl5 hset hoo ht hq hu hb5 ho hb E2
              go_wp2
              go_roundw
              case rel => exact ⟨k + 1, by go_num, by rw [E1.out, ← hadd], by omega, hs1, hB6⟩
              case measure => simp [intOf]; omega
          obtain ⟨e1, e2⟩ := hMS hxn
          have hne : ((x : Int) != (n : Int)) = true := by simp; omega
          have E1 : Hid (NF n (k + 1) = NF n k) := e1
          have ho2 : w3.ownsRow w.heap.size 9 1 (.slice (some ⟨w1.heap.size, 0, none⟩) N N) N (cellsS (OF n (k + 1))) := by rw [e2]; exact ho
          clear e1 e2 hHT hMS ho
          go_wp2
          go_roundw
          case rel => exact ⟨k + 1, by go_num, by rw [E1.out], by omega, ho2, hb⟩
          case measure => simp [intOf]; omega
        obtain rfl : k = N := by omega
        obtain ⟨e1, e2⟩ := HWRAP.out n
        rw [e1]
        rw [e2] at ho
        have hkI : ¬ (k : Int) < (k : Int) := by omega
        clear e1 e2
        go_wp2
        go_roundw
        case rel => exact ⟨n + 1, by go_num, rfl, by omega, by omega, ho, hb⟩
        case measure => simp [intOf]; omega
    obtain rfl : n = 41 := by omega
    rw [HEN.out] at ho
    have hnI : ¬ (((41 : Nat) : Int) ≤ 40) := by omega
    clear HX HLN HHIT HMISS HWRAP HNLE HOL HEN
    go_wp2
    go_ret
    exact ⟨_, rfl, by rw [HCL.out]; exact ho, hb⟩

end Go.Proofs.Ytiflpnmkclcimab
