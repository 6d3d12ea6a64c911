/- CONTRACTS: the program's bitsOf, Codes. -/
import Derived.Test.YtiflpnmkclcimabSortB
import Derived.Test.YtiflpnmkclcimabShortI
import Derived.Test.YtiflpnmkclcimabOwn
import Derived.WalkSmall
namespace Go.Proofs.Ytiflpnmkclcimab
open Go.RowKit
set_option linter.unusedVariables false

theorem bit_of {c len k : Nat} (hk : k < len) (hl : len ≤ 40) : c * 2 ^ (40 - len) / 2 ^ (39 - k) % 2 = c / 2 ^ (len - 1 - k) % 2 := by
  rw [show 39 - k = (40 - len) + (len - 1 - k) by omega, Nat.pow_add, Nat.mul_comm c, Nat.mul_div_mul_left _ _ (Nat.two_pow_pos _)]
theorem and_one_i64 (x : Nat) (h : x ≤ 1099511627776) : bits BinOp.and IntKind.i64 (x : Int) 1 = ((x % 2 : Nat) : Int) := by
  have h1 : (BitVec.ofInt 64 (x : Int)).toNat = x := by
    rw [BitVec.ofInt_natCast, BitVec.toNat_ofNat]; exact Nat.mod_eq_of_lt (by omega)
  have h2 : (BitVec.ofInt 64 (1 : Int)).toNat = 1 := by decide
  show IntKind.i64.wrap ((BitVec.ofInt 64 (x : Int) &&& BitVec.ofInt 64 (1 : Int)).toNat : Int) = _
  rw [BitVec.toNat_and, h1, h2, Nat.and_one_is_mod, IntWalk.i64_in _ ⟨by omega, by omega⟩]
theorem bit_val (c m : Nat) (h : c ≤ 1099511627776) : (48 + bits BinOp.and IntKind.i64 ((c : Int) / 2 ^ m) 1) % 256 = ((48 + c / 2 ^ m % 2 : Nat) : Int) := by
  have e : (c : Int) / 2 ^ m = ((c / 2 ^ m : Nat) : Int) := by rw [Int.natCast_ediv, Int.natCast_pow]; rfl
  have hle : c / 2 ^ m ≤ c := Nat.div_le_self _ _
  rw [e, and_one_i64 _ (by omega)]
  omega
theorem shl_val {c d v : Nat} (h : c * 2 ^ d = v) (hv : v ≤ 1099511627776) : wrap64 ((c : Int) * 2 ^ d) = (v : Int) := by
  have e : (c : Int) * 2 ^ d = ((c * 2 ^ d : Nat) : Int) := by rw [Int.natCast_mul, Int.natCast_pow]; rfl
  rw [e, h, IntWalk.wrap64_in _ ⟨by omega, by omega⟩]
set_option maxHeartbeats 1000000 in
set_option maxRecDepth 100000 in
theorem bitsOf_any (c len : Nat) (w : World) (h1 : 1 ≤ len) (h40 : len ≤ 40) (hc : c ≤ 1099511627776) :
    Calls Try.prog 63 #[.int .i64 (c : Int), .int .i64 (len : Int)] w fun e w' => e = .returned (.string (asB (Huff.bitsF len (c * 2 ^ (40 - len))))) ∧ Below w.heap.size w w' := by
  obtain ⟨j0, hj, hy0, hy1, hy2⟩ := info_parts Try.infoB
  have HB : Hid (∀ k, k < len → (cellsByteS ((Huff.bitsF len (c * 2 ^ (40 - len))).take k ++ List.replicate (len - k) 0)).set k (.int .u8 ((48 + c / 2 ^ (len - 1 - k) % 2 : Nat) : Int)) = cellsByteS ((Huff.bitsF len (c * 2 ^ (40 - len))).take (k + 1) ++ List.replicate (len - (k + 1)) 0)) := fun k hk => by
    rw [← bit_of hk h40]
    exact bits_step len _ k hk
  have HBL : Hid ((Huff.bitsF len (c * 2 ^ (40 - len))).length = len) := Huff.bitsF_len _ _
  have HBB : Hid (Bytes (Huff.bitsF len (c * 2 ^ (40 - len)))) := bits_bytes _ _
  generalize Huff.bitsF len (c * 2 ^ (40 - len)) = L at HB HBL HBB ⊢
  go_enter Try.func63, Try.ntmps63
  go_wp2_with (at_make; refine wpList_make_full _ rfl _ _ 22 rfl w.heap.size 5 j0 (.int .u8 0) 1 Try.underlying22 hj hy0 hy1 _ _ _ _ len rfl rfl (by omega) (by omega) (by rw [hy2]; omega) (by unfold maxLen; omega) ?e1 ?_)
  case e1 => exact Nat.le_refl _
  intro w2 ho2 hg2
  have hB2 : Below w.heap.size w w2 := (Below.refl _ _).grown hg2 (Nat.le_refl _) (fun q hq => by cases hq)
  have ho3 : w2.ownsRow w.heap.size 5 1 (.slice (some ⟨w.heap.size, 0, none⟩) len len) len (cellsByteS (L.take 0 ++ List.replicate (len - 0) 0)) := by
    have h := ho2
    rw [toList_madeCells_one] at h
    simpa using h
  clear ho2 hg2
  go_wp2
  go_loopw [11] (fun i wr => ∃ k : Nat, i = .int .i64 k ∧ k ≤ len ∧ wr.ownsRow w.heap.size 5 1 (.slice (some ⟨w.heap.size, 0, none⟩) len len) len (cellsByteS (L.take k ++ List.replicate (len - k) 0)) ∧ Below w.heap.size w wr) (fun i _ => len - (intOf i).toNat)
  case atStart => exact ⟨0, rfl, Nat.zero_le _, ho3, hB2⟩
  case round =>
    obtain ⟨k, rfl, hk, ho, hb⟩ := hrel
    clear ho3 hB2
    by_cases hlt : k < len
    focus
      have hq0 : (((len : Int) - 1) - (k : Int)) = ((len - 1 - k : Nat) : Int) := by omega
      have hf1 := World.ownsRow.frozenAt ho k
      have hst := World.ownsRow.stored ho k (.int .u8 ((48 + c / 2 ^ (len - 1 - k) % 2 : Nat) : Int))
      rw [HB.out k hlt] at hst
      have HST := Lib.hid hst
      have hco := World.ownsRow.cellAt ho k (by omega)
      obtain ⟨u, hu⟩ : ∃ u, wr.cell? ⟨w.heap.size, k, none⟩ = some u := by
        rw [hco]
        exact ⟨_, List.getElem?_eq_getElem (by simp [HBL.out]; omega)⟩
      have HV := Lib.hid (bit_val c (len - 1 - k) hc)
      clear hq0 hst hco ho
      go_wp2
      rw [HV.out]
      go_roundw
      case rel => exact ⟨k + 1, by go_num, by omega, HST.out.1, hb.grown HST.out.2 hb.size (fun q hq => by cases hq; exact Nat.le_refl _)⟩
      case measure => simp [intOf]; omega
    obtain rfl : k = len := by omega
    rw [Nat.sub_self, List.replicate_zero, List.append_nil, List.take_of_length_le (by rw [HBL.out]; exact Nat.le_refl _)] at ho
    have hc2 := ownText_any (⟨w.heap.size, 0, none⟩ : Addr) k k L wr HBL.out HBB.out (fun j u hj => by
      have hjl : j < k := by
        have h := (List.getElem?_eq_some_iff.1 hj).1
        rw [List.length_map, HBL.out] at h
        exact h
      have e : (⟨w.heap.size, 0, none⟩ : Addr).add j = ⟨w.heap.size, 0 + j, none⟩ := Addr.add_lit ..
      rw [e, Nat.zero_add, World.ownsRow.cellAt ho j (by omega)]
      exact hj) (World.ownsRow.lt ho w.heap.size rfl).2 (by omega)
    clear ho HB HBB
    go_wp2_with fail
    refine hc2.mono ?_
    rintro e w3 ⟨rfl, hb3⟩
    have hB3 := hb.trans (hb3.mono hb.size)
    clear hc2
    go_wp2
    go_ret
    exact ⟨rfl, hB3⟩
/-! ### codes in their order -/
def accF (L : Nat → Nat) (N : Nat) (f : Nat → Nat) (k : Nat) : Nat := ((List.range N).map fun j => if j ∈ (List.range k).map f then 2 ^ (40 - L j) else 0).sum
theorem mem_ord (f : Nat → Nat) (k j : Nat) : j ∈ (List.range k).map f ↔ ∃ q, q < k ∧ f q = j := by
  rw [List.mem_map]
  constructor
  · rintro ⟨q, h1, h2⟩; exact ⟨q, List.mem_range.1 h1, h2⟩
  · rintro ⟨q, h1, h2⟩; exact ⟨q, List.mem_range.2 h1, h2⟩
theorem accF_zero (L : Nat → Nat) (N : Nat) (f : Nat → Nat) : accF L N f 0 = 0 := by
  unfold accF
  have h : ∀ l : List Nat, (l.map fun j => if j ∈ (List.range 0).map f then 2 ^ (40 - L j) else 0).sum = 0 := fun l => by
    induction l with
    | nil => rfl
    | cons a l ih => rw [List.map_cons, List.sum_cons, ih, if_neg (by simp)]
  exact h _
theorem mem_ord_succ {f : Nat → Nat} {k j : Nat} (h : j ≠ f k) : j ∈ (List.range (k + 1)).map f ↔ j ∈ (List.range k).map f := by
  rw [mem_ord, mem_ord]
  constructor
  · rintro ⟨q, h1, h2⟩
    rcases Nat.lt_or_ge q k with h3 | h3
    · exact ⟨q, h3, h2⟩
    · obtain rfl : q = k := by omega
      exact absurd h2.symm h
  · rintro ⟨q, h1, h2⟩; exact ⟨q, by omega, h2⟩
theorem accF_succ {L : Nat → Nat} {N : Nat} {f : Nat → Nat} {k : Nat} (hk : f k < N) (hinj : ∀ x y, f x = f y → x = y) : accF L N f (k + 1) = accF L N f k + 2 ^ (40 - L (f k)) := by
  unfold accF
  obtain ⟨r, hr⟩ := Huff.perm_out (List.mem_range.2 hk)
  have hnd : (f k :: r).Nodup := (hr.nodup_iff).1 List.nodup_range
  rw [Huff.sum_perm (hr.map _), Huff.sum_perm (hr.map _)]
  have h1 : f k ∈ (List.range (k + 1)).map f := (mem_ord f (k + 1) (f k)).2 ⟨k, by omega, rfl⟩
  have h2 : ¬ f k ∈ (List.range k).map f := fun h => by
    obtain ⟨q, h3, h4⟩ := (mem_ord f k (f k)).1 h
    have := hinj _ _ h4
    omega
  simp only [List.map_cons, List.sum_cons, if_pos h1, if_neg h2]
  have : (r.map fun j => if j ∈ (List.range (k + 1)).map f then 2 ^ (40 - L j) else 0).sum = (r.map fun j => if j ∈ (List.range k).map f then 2 ^ (40 - L j) else 0).sum := Huff.sum_map_congr fun j hj => by
    have hne : j ≠ f k := fun e => (List.nodup_cons.1 hnd).1 (e ▸ hj)
    have hiff := @mem_ord_succ f k j hne
    simp only [hiff]
  rw [this]
  omega
theorem start_acc {L : Nat → Nat} {N : Nat} {f : Nat → Nat} (hs : Srt.Sorted L 0 N f) (hg : Srt.Seg 0 N (fun k => k) f) {k : Nat} (hk : k < N) : Huff.startF L N (f k) = accF L N f k := by
  unfold Huff.startF accF
  refine Huff.sum_map_congr fun j hj => ?_
  have hj := List.mem_range.1 hj
  have hiff : Huff.ahead L j (f k) ↔ j ∈ (List.range k).map f := by
    rw [mem_ord]
    constructor
    · intro h
      obtain ⟨q, h1, h2⟩ := hg.onto hj
      refine ⟨q, ?_, h2⟩
      rcases Nat.lt_trichotomy q k with h3 | h3 | h3
      · exact h3
      · subst h3; rw [h2] at h; exact absurd h (Huff.ahead_irr L j)
      · have := hs k q (Nat.zero_le _) h3 h1
        rw [h2] at this
        exact absurd h (Huff.ahead_not this)
    · rintro ⟨q, h1, h2⟩
      have := hs q k (Nat.zero_le _) h1 hk
      rwa [h2] at this
  simp only [hiff]
def outO (l : List Int) (f : Nat → Nat) (k : Nat) : List ByteArray := (List.range l.length).map fun j => if j ∈ (List.range k).map f then codeB l j else ⟨#[]⟩
theorem outO_len (l : List Int) (f : Nat → Nat) (k : Nat) : (outO l f k).length = l.length := by simp [outO]
theorem outO_zero (l : List Int) (f : Nat → Nat) : outO l f 0 = List.replicate l.length ⟨#[]⟩ := by
  unfold outO
  rw [List.map_congr_left (g := fun _ => (⟨#[]⟩ : ByteArray)) (fun j _ => by rw [if_neg (by simp)]), List.map_const', List.length_range]
theorem outO_end {l : List Int} {f : Nat → Nat} (hg : Srt.Seg 0 l.length (fun k => k) f) : outO l f l.length = codesI l := by
  unfold outO codesI
  refine List.map_congr_left fun j hj => ?_
  rw [if_pos ((mem_ord f _ j).2 (hg.onto (List.mem_range.1 hj)))]
theorem outO_succ {l : List Int} {f : Nat → Nat} {k : Nat} (hk : f k < l.length) : outO l f (k + 1) = (outO l f k).set (f k) (codeB l (f k)) := by
  apply List.ext_getElem
  · simp [outO]
  · intro j h1 h2
    have e : ∀ k (h : j < (outO l f k).length), (outO l f k)[j] = if j ∈ (List.range k).map f then codeB l j else ⟨#[]⟩ := fun k h => by simp [outO]
    rw [List.getElem_set, e, e _ (by rw [List.length_set] at h2; exact h2)]
    by_cases e : f k = j
    · rw [if_pos e, if_pos ((mem_ord f (k + 1) j).2 ⟨k, by omega, e⟩), e]
    · rw [if_neg e]
      have hiff := @mem_ord_succ f k j (fun h => e h.symm)
      simp only [hiff]

set_option maxHeartbeats 4000000 in
set_option maxRecDepth 100000 in
theorem implCodes_any (va : Value) (l : List Int) (w : World) (ha : Rd w va (cellsInt64S l)) (hll : l.length ≤ 1099511627776) :
    Calls Try.prog 27 #[va] w fun e w' => ∃ v, e = .returned v ∧ w'.ownsRow w.heap.size 9 1 v (codesT l).length (cellsS (codesT l)) ∧ Below w.heap.size w w' := by
  obtain ⟨i0, hi, hz0, hz1, hz2⟩ := info_parts Try.infoS
  have H1 := implKraft_any va l w ha hll
  cases hkb : kraftB l
  focus
    have e : codesT l = [] := by unfold codesT; rw [if_neg (by rw [hkb]; simp)]
    rw [hkb] at H1
    rw [e]
    clear hkb e ha
    go_enter Try.func27, Try.ntmps27
    go_wp2_with fail
    refine H1.mono ?_
    rintro e u ⟨rfl, hu⟩
    replace hu := hu.symm
    subst hu
    clear H1
    go_wp2
    go_ret
    exact ⟨_, rfl, World.ownsRow_nil _ _ _ _, Below.refl _ _⟩
  have hkk := hkb
  unfold kraftB at hkk
  rw [Bool.and_eq_true, decide_eq_true_eq] at hkk
  obtain ⟨hal, hkl⟩ := hkk
  obtain ⟨⟨hl1, hl32⟩, hall⟩ := allIn_out hal
  have e : codesT l = codesI l := by unfold codesT; rw [if_pos hkb]
  have HLN : Hid (∀ j, j < l.length → 1 ≤ lenN l j ∧ lenN l j ≤ 40 ∧ l.getD j 0 = (lenN l j : Int)) := fun j hj => by
    have := hall j hj
    unfold lenN
    omega
  have HKL := Lib.hid hkl
  have HB := fun w ha => byLength_any va l w ha (fun i hi => by have := hall i hi; omega) hl1 hl32
  have HCL : Hid ((codesI l).length = l.length) := by show _ = _; simp [codesI]
  have HAW := Lib.hid ha
  rw [hkb] at H1
  rw [e]
  have hlA : (cellsInt64S l).length = l.length := by simp
  obtain ⟨ao, cap, hva, hcap, hx⟩ := id ha
  rw [hlA] at hva hcap hx
  have HX : Hid (∀ j, j < l.length → ∃ b off, ao = some ⟨b, off, none⟩ ∧ b < w.heap.size ∧ w.cell? ⟨b, off + j, none⟩ = some (.int .i64 (lenN l j : Int))) := fun j hj => by
    obtain ⟨b, off, h1, h2, h3⟩ := hx (by intro h; rw [h] at hlA; simp at hlA; omega)
    exact ⟨b, off, h1, h2, by rw [← (HLN.out j hj).2.2]; exact (h3 j hj).trans (ints_get _ l j hj)⟩
  obtain ⟨N, hN⟩ : ∃ N, N = l.length := ⟨_, rfl⟩
  have HN := Lib.hid hN
  rw [← hN] at hva hcap HX HLN HB HCL hl1 hl32 hll
  clear hx hlA ha hal hkl hall hkb e hN
  subst hva
  go_enter Try.func27, Try.ntmps27
  go_wp2_with fail
  refine H1.mono ?_
  rintro e u ⟨rfl, hu⟩
  replace hu := hu.symm
  subst hu
  clear H1
  go_wp2_with (at_make; refine wpList_make_full _ rfl _ _ 44 rfl w.heap.size 9 i0 (.string ⟨#[]⟩) 1 Try.underlying44 hi hz0 hz1 _ _ _ _ N rfl rfl (by omega) (by omega) (by rw [hz2]; omega) (by unfold maxLen; omega) ?e1 ?_)
  case e1 => exact Nat.le_refl _
  intro w2 ho2 hg2
  have hB2 : Below w.heap.size w w2 := (Below.refl _ _).grown hg2 (Nat.le_refl _) (fun q hq => by cases hq)
  have ho3 : w2.ownsRow w.heap.size 9 1 (.slice (some ⟨w.heap.size, 0, none⟩) N N) N (cellsS (List.replicate N ⟨#[]⟩)) := by
    have h := ho2
    rw [toList_madeCells_one] at h
    simpa using h
  have hg0 : w.heap.size < w2.heap.size := (World.ownsRow.lt ho3 w.heap.size rfl).2
  have hc := HB w2 (rd_below HAW.out hB2)
  clear ho2 hg2 HB HAW
  go_wp2_with fail
  refine hc.mono ?_
  rintro e w3 ⟨f, rfl, hr3, hg3, hs3, hb3, hsz3⟩
  clear hc
  have ho4 := owns_below ho3 hb3
  have hB3 : Below w.heap.size w w3 := hB2.trans (hb3.mono hB2.size)
  obtain ⟨g1, hg1⟩ : ∃ g1, g1 = w2.heap.size + 1 := ⟨_, rfl⟩
  rw [← hg1] at hr3 ⊢
  have hg01 : w.heap.size < g1 := by omega
  have hg13 : g1 < w3.heap.size := by omega
  clear ho3 hb3 hg1 hsz3 hg0 hB2
  rw [HN.out] at hg3
  have hs3' := hs3
  rw [HN.out] at hs3'
  have HST : Hid (∀ k, k < N → Huff.startF (lenN l) l.length (f k) = accF (lenN l) l.length f k) := fun k hk => start_acc hs3' hg3 (by rw [← HN.out]; exact hk)
  have HFL : Hid (∀ k, k < N → f k < N) := fun k hk => by
    have h := hg3.all (P := fun x => x < l.length) (fun k _ h => h) k (Nat.zero_le _) (by rw [← HN.out]; exact hk)
    rw [← HN.out] at h
    exact h
  have HACC : Hid (∀ k, k < N → accF (lenN l) l.length f (k + 1) = accF (lenN l) l.length f k + 2 ^ (40 - lenN l (f k))) := fun k hk => accF_succ (by rw [← HN.out]; exact HFL.out k hk) fun x y h => hg3.inj h
  have HACB : Hid (∀ k, k < N → accF (lenN l) l.length f k + 2 ^ (40 - lenN l (f k)) ≤ 1099511627776) := fun k hk => by
    have h := Huff.start_end (lenN l) (i := f k) (n := l.length) (by rw [← HN.out]; exact HFL.out k hk)
    rw [HST.out k hk] at h
    exact Nat.le_trans h HKL.out
  have HOS : Hid (∀ k, k < N → outO l f (k + 1) = (outO l f k).set (f k) (codeB l (f k))) := fun k hk => outO_succ (by rw [← HN.out]; exact HFL.out k hk)
  have HOE : Hid (outO l f N = codesI l) := by
    have h := outO_end hg3
    rw [← HN.out] at h
    exact h
  have HOL : Hid (∀ k, (outO l f k).length = N) := fun k => by rw [outO_len, HN.out]
  have HCB : Hid (∀ k c, k < N → c * 2 ^ (40 - lenN l (f k)) = accF (lenN l) l.length f k → codeB l (f k) = asB (Huff.bitsF (lenN l (f k)) (c * 2 ^ (40 - lenN l (f k))))) := fun k c hk h => by
    unfold codeB
    rw [HST.out k hk, h]
  have ho5 : w3.ownsRow w.heap.size 9 1 (.slice (some ⟨w.heap.size, 0, none⟩) N N) N (cellsS (outO l f 0)) := by
    rw [outO_zero, ← HN.out]
    exact ho4
  have ha0 : accF (lenN l) l.length f 0 = 0 := accF_zero _ _ _
  have HMON : Hid (∀ p q, p ≤ q → q < N → lenN l (f p) ≤ lenN l (f q)) := fun p q hpq hq => by
    rcases Nat.lt_or_ge p q with h | h
    · have h2 := hs3 p q (Nat.zero_le _) h hq
      unfold Huff.ahead at h2
      omega
    · obtain rfl : p = q := by omega
      exact Nat.le_refl _
  clear ho4 hg3 hs3 hs3' HKL HST
  generalize outO l f = OF at HOS HOE HOL ho5
  generalize accF (lenN l) l.length f = AC at HACC HACB HCB ha0
  generalize codeB l = CB at HOS HCB
  go_wp2
  go_loopw [4, 5, 17] (fun p q i wr => ∃ k c last : Nat, i = .int .i64 k ∧ p = .int .i64 c ∧ q = .int .i64 last ∧ k ≤ N ∧ last ≤ 40 ∧ RowSt g1 N f wr ∧ wr.ownsRow w.heap.size 9 1 (.slice (some ⟨w.heap.size, 0, none⟩) N N) N (cellsS (OF k)) ∧ Below w.heap.size w wr ∧ Hid (c * 2 ^ (40 - last) = AC k ∧ (k < N → last ≤ lenN l (f k)))) (fun _ _ i _ => N - (intOf i).toNat)
  case atStart => exact ⟨0, 0, 0, rfl, rfl, rfl, Nat.zero_le _, by omega, hr3, ho5, hB3, by rw [ha0, Nat.zero_mul], fun _ => Nat.zero_le _⟩
  case round =>
    obtain ⟨k, c, last, rfl, rfl, rfl, hk, hl40, hr, ho, hb, hinv⟩ := hrel
    clear hr3 ho5 hB3 hg13
    by_cases hlt : k < N
    focus
      have cf := hr.cell hlt
      have hfl := HFL.out k hlt
      obtain ⟨b, off, rfl, hbl, hc0⟩ := HX.out (f k) hfl
      have hcl := (hb.cell (p := ⟨b, off + f k, none⟩) hbl).trans hc0
      obtain ⟨hn1, hn40, _⟩ := HLN.out (f k) hfl
      have hle := hinv.out.2 hlt
      have HS1 := Lib.hid (HOS.out k hlt)
      have HCBk := fun c => HCB.out k c hlt
      have HACk := Lib.hid (HACC.out k hlt)
      have hacb := HACB.out k hlt
      have HMk : Hid (k + 1 < N → lenN l (f k) ≤ lenN l (f (k + 1))) := fun h => HMON.out k (k + 1) (by omega) h
      obtain ⟨n, hn⟩ : ∃ n, n = lenN l (f k) := ⟨_, rfl⟩
      rw [← hn] at hcl hn1 hn40 hle HCBk HACk hacb HMk
      obtain ⟨x, hx⟩ : ∃ x, x = f k := ⟨_, rfl⟩
      rw [← hx] at cf hfl hcl HS1 HCBk
      have hc1 : c * 2 ^ (n - last) * 2 ^ (40 - n) = AC k := by
        rw [Nat.mul_assoc, ← Nat.pow_add, show n - last + (40 - n) = 40 - last by omega]
        exact hinv.out.1
      obtain ⟨c1, hcc1⟩ : ∃ c1, c * 2 ^ (n - last) = c1 := ⟨_, rfl⟩
      rw [hcc1] at hc1
      have hq1 : 1 ≤ 2 ^ (40 - n) := Nat.two_pow_pos _
      have hc1b : c1 ≤ c1 * 2 ^ (40 - n) := Nat.le_mul_of_pos_right _ hq1
      have hc1c : c1 ≤ 1099511627776 := by omega
      have HSH := Lib.hid (shl_val hcc1 hc1c)
      have hE : ((n : Int) - (last : Int)).toNat = n - last := by omega
      have HN2 : Hid ((c1 + 1) * 2 ^ (40 - n) = AC (k + 1)) := by
        show _ = _
        rw [Nat.add_mul, Nat.one_mul, hc1, HACk.out]
      have hbits := fun w => bitsOf_any c1 n w hn1 hn40 hc1c
      rw [← HCBk c1 hc1] at hbits
      have hxN : (x : Int) < (N : Int) := by omega
      clear hn hx hc0 hcc1 hq1 hc1b hc1 HCBk hacb hinv HACk
      go_wp2_with fail
      rw [HSH.out]
      refine (hbits _).mono ?_
      rintro e w5 ⟨rfl, hb5⟩
      clear hbits
      have hr5 : RowSt g1 N f w5 := owns_below hr hb5
      have ho5 := owns_below ho hb5
      have hbb5 := hb.trans (hb5.mono hb.size)
      have hf5 := World.ownsRow.frozenAt ho5 x
      have hco : w5.cell? ⟨w.heap.size, x, none⟩ = some (.string ((OF k).getD x ByteArray.empty)) := (World.ownsRow.cellAt ho5 x (by omega)).trans (strs_get _ x (by rw [HOL.out]; exact hfl))
      have hst := World.ownsRow.stored ho5 x (.string (CB x))
      have hset : (cellsS (OF k)).set x (.string (CB x)) = cellsS (OF (k + 1)) := by
        rw [HS1.out]
        simp [cellsS, List.map_set]
      rw [hset] at hst
      have HST := Lib.hid hst
      obtain ⟨u, hu⟩ : ∃ u, u = (OF k).getD x ByteArray.empty := ⟨_, rfl⟩
      rw [← hu] at hco
      obtain ⟨t, ht⟩ : ∃ t, t = CB x := ⟨_, rfl⟩
      rw [← ht] at HST ⊢
      have HR5 := Lib.hid hr5
      clear hst hset hu ht ho5 ho hr hr5 hb hb5 hcl cf
      go_wp2
      go_roundw
      case rel =>
        refine ⟨k + 1, c1 + 1, n, by go_num, by go_num, rfl, by omega, hn40, ?_, HST.out.1, ?_, HN2.out, HMk.out⟩
        · exact owns_grown HR5.out HST.out.2 (fun q hq e => by cases hq; have := (World.ownsRow.lt HR5.out _ e).1; omega)
        · exact hbb5.grown HST.out.2 hbb5.size (fun q hq => by cases hq; exact Nat.le_refl _)
      case measure => simp [intOf]; omega
    obtain rfl : k = N := by omega
    rw [HOE.out] at ho
    clear hinv HFL HMON HACC HACB HCB HOS HX
    go_wp2
    go_ret
    exact ⟨_, rfl, by rw [HCL.out]; exact ho, hb⟩
end Go.Proofs.Ytiflpnmkclcimab
