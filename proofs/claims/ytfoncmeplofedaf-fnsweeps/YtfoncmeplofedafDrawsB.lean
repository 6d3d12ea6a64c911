/- CONTRACTS: spec.l7Draw, l7DrawAny, l7DrawDigests, DrawPut, DrawGet, DrawDrop: whatever the code, some blobs. -/
import Derived.Test.YtfoncmeplofedafDrawTX
import Derived.Test.YtfoncmeplofedafStoM
import Derived.Deep.RegionLaw
namespace Go.Proofs.Ytfoncmeplofedaf
open Go.RowKit
set_option linter.unusedVariables false
theorem gr_below {w0 w1 w2 : World} {cb : Nat} (hg : w0.grownBy w1 (some cb)) (hb : Below w1.heap.size w1 w2) : w0.grownBy w2 (some cb) :=
  ⟨hb.os.trans hg.os, hb.tape.trans hg.tape, hb.output.trans hg.output, Nat.le_trans hg.size hb.size, fun k hk hne => (hb.block k (Nat.lt_of_lt_of_le hk hg.size)).trans (hg.block k hk hne)⟩
theorem gr_own {w0 w1 w2 : World} {cb : Nat} {row : Option Nat} (hg : w0.grownBy w1 (some cb)) (hb : w1.grownBy w2 row) (hr : ∀ g, row = some g → w0.heap.size ≤ g) : w0.grownBy w2 (some cb) :=
  ⟨hb.os.trans hg.os, hb.tape.trans hg.tape, hb.output.trans hg.output, Nat.le_trans hg.size hb.size, fun k hk hne => (hb.block k (Nat.lt_of_lt_of_le hk hg.size) (fun e => by have := hr k e.symm; omega)).trans (hg.block k hk hne)⟩
theorem insB_sub {l : List Bl} {p q : Bl} (h : q ∈ insB l p) : q = p ∨ q ∈ l := by
  unfold insB at h
  rw [List.mem_append, List.mem_cons, List.mem_filter, List.mem_filter] at h
  rcases h with h | h | h
  · exact Or.inr h.1
  · exact Or.inl h
  · exact Or.inr h.1
theorem putT_sub {l : List Bl} {s : ByteArray} {q : Bl} (h : q ∈ (putT l s).1) : q = (digest s, s) ∨ q ∈ l := by
  revert h
  unfold putT
  by_cases h1 : storeB l = true
  · rw [if_pos h1]
    by_cases h2 : 2000 < s.size
    · rw [if_pos h2]; exact Or.inr
    · rw [if_neg h2]
      cases findB l (digest s) with
      | some p =>
        simp only
        by_cases h3 : p.2 = s
        · rw [if_pos h3]; exact Or.inr
        · rw [if_neg h3]; exact Or.inr
      | none =>
        simp only
        by_cases h3 : l.length = 300
        · rw [if_pos h3]; exact Or.inr
        · rw [if_neg h3]; exact insB_sub
  · rw [if_neg h1]
    intro h
    cases h
theorem putT_len (l : List Bl) (s : ByteArray) : (putT l s).1.length ≤ l.length + 1 := by
  unfold putT
  by_cases h1 : storeB l = true
  · rw [if_pos h1]
    by_cases h2 : 2000 < s.size
    · rw [if_pos h2]; exact Nat.le_succ _
    · rw [if_neg h2]
      cases hf : findB l (digest s) with
      | some p =>
        simp only
        by_cases h3 : p.2 = s
        · rw [if_pos h3]; exact Nat.le_succ _
        · rw [if_neg h3]; exact Nat.le_succ _
      | none =>
        simp only
        by_cases h3 : l.length = 300
        · rw [if_pos h3]; exact Nat.le_succ _
        · rw [if_neg h3]
          exact Nat.le_of_eq (insB_len (findB_none.1 hf))
  · rw [if_neg h1]
    exact Nat.zero_le _
theorem put_small {l : List Bl} {s : ByteArray} {B : Nat} (h : ∀ p ∈ l, p.2.size ≤ B) (hs : s.size ≤ B) : ∀ p ∈ (putT l s).1, p.2.size ≤ B := fun p hp => by
  rcases putT_sub hp with rfl | hp
  · exact hs
  · exact h p hp
def Sm (l : List Bl) (B : Nat) : Prop := ∀ p ∈ l, p.2.size ≤ B
theorem owns_far {w w' : World} {base cb : Nat} {e : TypeId} {size : Nat} {v : Value} {n : Nat} {xs : List Value} (h : w.ownsRow base e size v n xs) (hg : w.grownBy w' (some cb)) (hb : cb < base) : w'.ownsRow base e size v n xs :=
  owns_grown h hg (fun k hk h2 => by cases hk; have := (h.lt cb h2).1; omega)
theorem fa_put {l : List Bl} {s : ByteArray} (h : Fa l) (hs : digest s ≠ 422356391) : Fa (putT l s).1 := fun p hp => by
  rcases putT_sub hp with rfl | hp
  · exact ⟨rfl, hs⟩
  · exact h p hp
theorem far_set {l : List Bl} {i : Nat} {x : Bl} (h : Far l) (hx : (x.1 = digest x.2 → x.1 ≠ 422356391) ∧ In64 x.1) : Far (l.set i x) := fun p hp => by
  rcases List.mem_or_eq_of_mem_set hp with h1 | h1
  · exact h p h1
  · rw [h1]; exact hx
theorem far_append {l m : List Bl} (h : Far l) (k : Far m) : Far (l ++ m) := fun p hp => by
  rcases List.mem_append.1 hp with h1 | h1
  · exact h p h1
  · exact k p h1
theorem far_none {l : List Bl} {s : ByteArray} (h : Far l) (hz : 2000 < s.size → digest s = 422356391) (hs : storeB l = true) (h2 : 2000 < s.size) : findB l (digest s) = none := findB_none.2 fun p hp e => by
  rw [hz h2] at e
  exact (h p hp).1 ((storeB_iff.1 hs).2.1 p hp).2 e
theorem blC_set0 : ∀ (l : List Bl) (i : Nat) (x : Int), i < l.length → (blC l).set (i * 2) (.int .i64 x) = blC (l.set i (x, (l.getD i bl0).2))
  | q :: t, 0, x, _ => rfl
  | q :: t, i + 1, x, h => by
    have e := blC_set0 t i x (by simpa using h)
    rw [blC_cons, show (i + 1) * 2 = i * 2 + 1 + 1 by omega, List.set_cons_succ, List.set_cons_succ, e, List.set_cons_succ, blC_cons]
    rfl
theorem blC_set1 : ∀ (l : List Bl) (i : Nat) (y : ByteArray), i < l.length → (blC l).set (i * 2 + 1) (.string y) = blC (l.set i ((l.getD i bl0).1, y))
  | q :: t, 0, x, _ => rfl
  | q :: t, i + 1, x, h => by
    have e := blC_set1 t i x (by simpa using h)
    rw [blC_cons, show (i + 1) * 2 + 1 = i * 2 + 1 + 1 + 1 by omega, List.set_cons_succ, List.set_cons_succ, e, List.set_cons_succ, blC_cons]
    rfl
theorem sm_set {l : List Bl} {B i : Nat} {x : Bl} (h : Sm l B) (hx : x.2.size ≤ B) : Sm (l.set i x) B := fun p hp => by
  rcases List.mem_or_eq_of_mem_set hp with h1 | h1
  · exact h p h1
  · rw [h1]; exact hx
theorem sm_get {l : List Bl} {B i : Nat} (h : Sm l B) (hi : i < l.length) : (l.getD i bl0).2.size ≤ B := by
  rw [getD_at hi]; exact h _ (List.getElem_mem hi)
theorem sm_mono {l : List Bl} {B C : Nat} (h : Sm l B) (hBC : B ≤ C) : Sm l C := fun p hp => Nat.le_trans (h p hp) hBC
theorem sm_append {l m : List Bl} {B : Nat} (h : Sm l B) (k : Sm m B) : Sm (l ++ m) B := fun p hp => by
  rcases List.mem_append.1 hp with h1 | h1
  · exact h p h1
  · exact k p h1
theorem owns_slice2 {w : World} {base : Nat} {e : TypeId} {v : Value} {n : Nat} {xs : List Value} (h : w.ownsRow base e 2 v n xs) : ∃ ao cap, v = .slice ao n cap := by
  rcases h.2 with ⟨rfl, rfl⟩ | ⟨g, cap, cur, rfl, _⟩
  · exact ⟨_, _, rfl⟩
  · exact ⟨_, _, rfl⟩
theorem owns_head2 {w : World} {base : Nat} {e : TypeId} {v : Value} {n : Nat} {xs : List Value} (h : w.ownsRow base e 2 v n xs) (hp : 0 < n) : ∃ g cap, v = .slice (some ⟨g, 0, none⟩) n cap ∧ base ≤ g ∧ g < w.heap.size := by
  rcases h.2 with ⟨_, h0⟩ | ⟨g, cap, cur, rfl, hg, hh, _⟩
  · omega
  · exact ⟨g, cap, rfl, hg, (Array.getElem?_eq_some_iff.1 hh).1⟩
theorem zerosB_bytes (n : Nat) : Bytes (List.replicate n (0 : Int)) := fun x hx => by
  rw [List.eq_of_mem_replicate hx]; omega
theorem zeros_made (r : Int) (hr0 : 0 ≤ r) (hr1 : r < 2) : ∃ (n : Nat) (M : Array Value) (z : ByteArray), n ≤ 2001 ∧ (2000 : Int) + r = (n : Int) ∧ IntKind.i64.wrap (n : Int) = (n : Int) ∧ (z.size ≤ 2001 ∧ (2000 < z.size → digest z = 422356391)) ∧
    (∀ W : World, (Instr.makeSlice 22 (.int .i64 (n : Int)) (.int .i64 (n : Int))).run Try.prog W = .ok (.slice (some ⟨W.heap.size, 0, none⟩) n n) (W.alloc (.cells M 5))) ∧
    ∀ W : World, (convert 22 9 (.slice (some ⟨W.heap.size, 0, none⟩) n n)).run Try.prog (W.alloc (.cells M 5)) = .ok (.string z) (W.alloc (.cells M 5)) := by
  obtain ⟨i0, hi, hz0, hz1, hz2⟩ := info_parts Try.infoB
  obtain ⟨n, hn⟩ : ∃ n : Nat, (n : Int) = 2000 + r := ⟨(2000 + r).toNat, by omega⟩
  have hmk : ∀ W : World, (Instr.makeSlice 22 (.int .i64 (n : Int)) (.int .i64 (n : Int))).run Try.prog W = .ok (.slice (some ⟨W.heap.size, 0, none⟩) n n) (W.alloc (.cells (madeCells (Value.int .u8 0).cells (((n : Nat) : Int).toNat * i0.size)) 5)) := fun W => by
    have h := run_make (P := Try.prog) W 22 5 i0 (.int .u8 0) Try.underlying22 hi hz0 .i64 .i64 (n : Int) (n : Int) (by omega) (by omega) (by rw [hz2]; omega) (by omega)
    simpa using h
  have hMl : (madeCells (Value.int .u8 0).cells (((n : Nat) : Int).toNat * i0.size)).toList = cellsByteS (List.replicate n 0) := by
    rw [hz1, cellsByteS, List.map_replicate, Int.toNat_natCast, Nat.mul_one]
    exact toList_madeCells_one (.int .u8 0) n
  refine ⟨n, _, asB (List.replicate n (0 : Int)), by omega, hn.symm, IntWalk.i64_in _ ⟨by omega, by omega⟩, ⟨by rw [asB_size, List.length_replicate]; omega, fun h => by
    rw [asB_size, List.length_replicate] at h
    obtain rfl : n = 2001 := by omega
    exact zeros_digest⟩, hmk, fun W => ?_⟩
  have h := str_of (W.alloc (.cells (madeCells (Value.int .u8 0).cells (((n : Nat) : Int).toNat * i0.size)) 5)) W.heap.size 0 n n (List.replicate n (0 : Int)) (zerosB_bytes n) (by rw [List.length_replicate]; omega) (fun j hj => by
    rw [Nat.zero_add, cell_of_row _ W.heap.size j _ _ (0, 0) (heap_alloc_new W _), ← Array.getElem?_toList, hMl]
    exact ints_get .u8 (List.replicate n 0) j (by simpa using hj))
  rw [List.take_of_length_le (by rw [List.length_replicate]; omega)] at h
  exact h
theorem rdB_drewN {w : World} {v : Value} {l : List Bl} (h : RdB w v l) (q : Nat) : RdB (w.drewN q) v l := rdB_below h (below_drewN (Below.refl _ _) _)
theorem own_cells {w : World} {base : Nat} {e : TypeId} {g cap n : Nat} {l : List Bl} (h : w.ownsRow base e 2 (.slice (some ⟨g, 0, none⟩) n cap) n (blC l)) (hn : n = l.length) {r : Nat} (hr : r < n) : w.cell? ⟨g, r * 2, none⟩ = some (.int .i64 (l.getD r bl0).1) ∧ w.cell? ⟨g, r * 2 + 1, none⟩ = some (.string (l.getD r bl0).2) := by
  subst hn
  obtain ⟨e0, e1⟩ := blC_get l r hr
  have hbl := blC_len l
  have f0 := h.cellAt (r * 2) (by omega)
  have f1 := h.cellAt (r * 2 + 1) (by omega)
  rw [e0] at f0
  rw [e1] at f1
  exact ⟨f0, f1⟩
set_option maxHeartbeats 2000000 in
set_option maxRecDepth 100000 in
theorem l7DrawDigests_any (cb : Nat) (v : Value) (bs : List Int) (u : Value) (l : List Bl) (B : Nat) (w : World) (hst : St w cb v bs) (hl : bs.length ≤ 4096) (hz : ∀ j, 0 ≤ bs.getD j 0 ∧ bs.getD j 0 ≤ 255) (hu : w.ownsRow B 41 2 u l.length (blC l)) (hB : cb < B) (hl8 : l.length ≤ 16) (hin : ∀ p ∈ l, In64 p.1) :
    Calls Try.prog 30 #[.pointer (some ⟨cb, 0, none⟩), u] w fun e w' => ∃ (v' : Value) (ds : List Int), e = .returned v' ∧ ds.length ≤ 5 ∧ (∀ d ∈ ds, In64 d) ∧ w'.ownsRow w.heap.size 2 1 v' ds.length (cellsInt64S ds) ∧ St w' cb v bs ∧ w.grownBy w' (some cb) := by
  obtain ⟨i0, hi, hz0, hz1, hz2⟩ := info_parts Try.info64
  have hcb := st_lt hst
  have HZ := Lib.hid hz
  have HU := Lib.hid hu
  have ho0 : (w.alloc (.cells #[] 2)).ownsRow w.heap.size 2 1 (.slice (some ⟨w.heap.size, 0, none⟩) 0 0) 0 (cellsInt64S []) := World.ownsRow_lit (base := w.heap.size) (e := 2) (size := 1) w #[] 0 (Nat.le_refl _) (Nat.zero_le _) rfl
  have hst0 : St (w.alloc (.cells #[] 2)) cb v bs := st_below hst ((Below.refl _ _).alloc (by omega) _)
  have hg0 : w.grownBy (w.alloc (.cells #[] 2)) (some cb) := World.grownBy_alloc w _ _
  obtain ⟨ao, cap, rfl⟩ := owns_slice2 hu
  obtain ⟨n, hn⟩ : ∃ n, n = l.length := ⟨_, rfl⟩
  have HN : Hid (n = l.length) := hn
  rw [← hn] at HU hl8 ⊢
  have HIN : Hid (∀ r, r < n → In64 (l.getD r bl0).1) := fun r hr => by
    have hrl : r < l.length := by omega
    rw [getD_at hrl]
    exact hin _ (List.getElem_mem hrl)
  clear hst hz hu hn hin
  go_enter Try.func30, Try.ntmps30
  go_wp2_with fail
  refine (below_any cb v bs 5 _ hst0 hl HZ.out (by omega)).mono ?_
  rintro e w2 ⟨N, rfl, hn0, hn1, _, hst2, hg2⟩
  have hn2 := hn1 (by omega)
  have ho2 := owns_far ho0 hg2 hcb
  have hgr2 := grown_trans hg0 hg2
  clear ho0 hg0 hg2 hst0 hn1
  go_wp2
  go_loopw [5, 6] (fun b q wr => ∃ (m : Int) (acc : List Int), q = .int .i64 m ∧ 0 ≤ m ∧ (acc.length : Int) + m ≤ 5 ∧ Hid (∀ d ∈ acc, In64 d) ∧ wr.ownsRow w.heap.size 2 1 b acc.length (cellsInt64S acc) ∧ St wr cb v bs ∧ w.grownBy wr (some cb)) (fun _ q _ => (intOf q).toNat)
  case atStart => exact ⟨N, [], rfl, hn0, by simp; omega, (fun d hd => absurd hd List.not_mem_nil), ho2, hst2, hgr2⟩
  case round =>
    obtain ⟨m, acc, rfl, hm0, hm1, hacc, ho, hst3, hgr⟩ := hrel
    clear ho2 hst2 hgr2
    by_cases hlt : 0 < m
    · by_cases hp : 0 < n
      rotate_left
      · go_wp2_with fail
        refine (drawText2_any cb v bs _ hst3 hl HZ.out).mono ?_
        rintro e w5 ⟨tx, rfl, ht9, hst5, hg5⟩
        have ho5 := owns_far ho hg5 hcb
        have hgr5 := grown_trans hgr hg5
        have hs5 := hgr5.size
        clear hst3 ho hgr hg5
        go_wp2_with fail
        refine (specDigest_any tx _ (by omega)).mono ?_
        rintro e w8 ⟨rfl, rfl⟩
        have hx64 := in64_digest tx
        generalize digest tx = x at hx64 ⊢
        have HAC : Hid (∀ d ∈ acc ++ [x], In64 d) := fun d hd => by
          rcases List.mem_append.1 hd with h | h
          · exact hacc.out d h
          · rw [List.mem_singleton.1 h]; exact hx64
        clear hx64
        go_wp2_with (at_builtin; refine wpList_append_own _ rfl _ _ 34 rfl w.heap.size 2 i0 (.int .i64 0) 1 8 Try.underlying34 hi hz0 hz1 hz2 rfl (by decide) _ _ _ rfl (ho5.alloc _) ⟨w8.heap.size, 0, none⟩ 1 1 [.int .i64 x] rfl rfl (one_cell w8 .i64 _ _) (ints_oneCell .i64 [x]) (by unfold maxLen; omega) (by omega) (by rw [World.size_alloc]; omega) ?_)
        intro v6 w6 ho6 hg6 _
        have hg7 := grown_trans (World.grownBy_alloc w8 _ _) hg6
        have hgr6 := gr_own hgr5 hg7 (fun g' h => (ho5.lt g' h).1)
        have hst6 := st_below hst5 (below_own' hg7 (st_lt hst5) (fun g' h => (ho5.lt g' h).1) hcb)
        have ho7 : w6.ownsRow w.heap.size 2 1 v6 (acc ++ [x]).length (cellsInt64S (acc ++ [x])) := by simpa using ho6
        have hl7 : ((acc ++ [x]).length : Int) + (m - 1) ≤ 5 := by rw [List.length_append, List.length_singleton]; omega
        clear ho6 hg6 hg7 ho5 hgr5 hst5
        go_wp2
        go_roundw
        case rel => exact ⟨m - 1, acc ++ [x], by go_num, by omega, hl7, HAC, ho7, hst6, hgr6⟩
        case measure => simp [intOf]; omega
      go_wp2_with fail
      refine (once_any cb v bs 3 _ hst3 hl HZ.out (by omega)).mono ?_
      rintro e w4 ⟨o, rfl, hst4, hg4⟩
      have ho4 := owns_far ho hg4 hcb
      have hgr4 := grown_trans hgr hg4
      clear hst3 ho hgr hg4
      cases o with
      | true =>
        go_wp2_with fail
        refine (drawText2_any cb v bs _ hst4 hl HZ.out).mono ?_
        rintro e w5 ⟨tx, rfl, ht9, hst5, hg5⟩
        have ho5 := owns_far ho4 hg5 hcb
        have hgr5 := grown_trans hgr4 hg5
        have hs5 := hgr5.size
        clear hst4 ho4 hgr4 hg5
        go_wp2_with fail
        refine (specDigest_any tx _ (by omega)).mono ?_
        rintro e w8 ⟨rfl, rfl⟩
        have hx64 := in64_digest tx
        generalize digest tx = x at hx64 ⊢
        have HAC : Hid (∀ d ∈ acc ++ [x], In64 d) := fun d hd => by
          rcases List.mem_append.1 hd with h | h
          · exact hacc.out d h
          · rw [List.mem_singleton.1 h]; exact hx64
        clear hx64
        go_wp2_with (at_builtin; refine wpList_append_own _ rfl _ _ 34 rfl w.heap.size 2 i0 (.int .i64 0) 1 8 Try.underlying34 hi hz0 hz1 hz2 rfl (by decide) _ _ _ rfl (ho5.alloc _) ⟨w8.heap.size, 0, none⟩ 1 1 [.int .i64 x] rfl rfl (one_cell w8 .i64 _ _) (ints_oneCell .i64 [x]) (by unfold maxLen; omega) (by omega) (by rw [World.size_alloc]; omega) ?_)
        intro v6 w6 ho6 hg6 _
        have hg7 := grown_trans (World.grownBy_alloc w8 _ _) hg6
        have hgr6 := gr_own hgr5 hg7 (fun g' h => (ho5.lt g' h).1)
        have hst6 := st_below hst5 (below_own' hg7 (st_lt hst5) (fun g' h => (ho5.lt g' h).1) hcb)
        have ho7 : w6.ownsRow w.heap.size 2 1 v6 (acc ++ [x]).length (cellsInt64S (acc ++ [x])) := by simpa using ho6
        have hl7 : ((acc ++ [x]).length : Int) + (m - 1) ≤ 5 := by rw [List.length_append, List.length_singleton]; omega
        clear ho6 hg6 hg7 ho5 hgr5 hst5
        go_wp2
        go_roundw
        case rel => exact ⟨m - 1, acc ++ [x], by go_num, by omega, hl7, HAC, ho7, hst6, hgr6⟩
        case measure => simp [intOf]; omega
      | false =>
        go_wp2_with fail
        refine (below_any cb v bs n _ hst4 hl HZ.out (by omega)).mono ?_
        rintro e w5 ⟨r, rfl, hr0, hr1, _, hst5, hg5⟩
        have ho5 := owns_far ho4 hg5 hcb
        have hgr5 := grown_trans hgr4 hg5
        have hs5 := hgr5.size
        have hr2 := hr1 (by omega)
        obtain ⟨r, rfl⟩ := Int.eq_ofNat_of_zero_le hr0
        have hrn : r < n := by omega
        have hu5 := owns_far HU.out hgr5 hB
        obtain ⟨g, cap', hv, _, _⟩ := owns_head2 hu5 hp
        simp only [Value.slice.injEq] at hv
        obtain ⟨rfl, _, rfl⟩ := hv
        obtain ⟨f0, f1⟩ := own_cells hu5 HN.out hrn
        have hx64 := HIN.out r hrn
        obtain ⟨x, hx⟩ : ∃ x, x = (l.getD r bl0).1 := ⟨_, rfl⟩
        obtain ⟨y, hy⟩ : ∃ y, y = (l.getD r bl0).2 := ⟨_, rfl⟩
        rw [← hx] at f0 hx64
        have HAC : Hid (∀ d ∈ acc ++ [x], In64 d) := fun d hd => by
          rcases List.mem_append.1 hd with h | h
          · exact hacc.out d h
          · rw [List.mem_singleton.1 h]; exact hx64
        clear hx64
        rw [← hy] at f1
        clear hst4 ho4 hgr4 hg5 hr1 hr0 hr2 hu5 hx hy
        go_wp2_with (at_builtin; refine wpList_append_own _ rfl _ _ 34 rfl w.heap.size 2 i0 (.int .i64 0) 1 8 Try.underlying34 hi hz0 hz1 hz2 rfl (by decide) _ _ _ rfl (ho5.alloc _) ⟨w5.heap.size, 0, none⟩ 1 1 [.int .i64 x] rfl rfl (one_cell w5 .i64 _ _) (ints_oneCell .i64 [x]) (by unfold maxLen; omega) (by omega) (by rw [World.size_alloc]; omega) ?_)
        intro v6 w6 ho6 hg6 _
        have hg7 := grown_trans (World.grownBy_alloc w5 _ _) hg6
        have hgr6 := gr_own hgr5 hg7 (fun g' h => (ho5.lt g' h).1)
        have hst6 := st_below hst5 (below_own' hg7 (st_lt hst5) (fun g' h => (ho5.lt g' h).1) hcb)
        have ho7 : w6.ownsRow w.heap.size 2 1 v6 (acc ++ [x]).length (cellsInt64S (acc ++ [x])) := by simpa using ho6
        have hl7 : ((acc ++ [x]).length : Int) + (m - 1) ≤ 5 := by rw [List.length_append, List.length_singleton]; omega
        clear ho6 hg6 hg7 ho5 hgr5 hst5
        go_wp2
        go_roundw
        case rel => exact ⟨m - 1, acc ++ [x], by go_num, by omega, hl7, HAC, ho7, hst6, hgr6⟩
        case measure => simp [intOf]; omega
    · go_wp2
      go_ret
      first
        | exact ⟨_, acc, rfl, by omega, hacc.out, ho, hst3, hgr⟩
        | exact ⟨_, rfl, acc, by omega, hacc.out, ho, hst3, hgr⟩
end Go.Proofs.Ytfoncmeplofedaf
