/- CONTRACTS: the program's note: one place more. -/
import Derived.Test.YtgcpdifggjkdhabSqI
namespace Go.Proofs.Ytgcpdifggjkdhab
open Go.RowKit Go.MapKept
set_option linter.unusedVariables false
open Go.ChangeMaps (setBlock heap_setBlock_same heap_setBlock_other)

theorem Try.infoP : (Try.prog.info? 3).map (fun i => (i.zero, i.size, i.bytes)) = some (some (.int .i64 0), 1, 8) := by kernel_rfl
theorem zeroRow (w : World) : (zeroValue 71).run Try.prog w = .ok (.slice none 0 0) w := by kernel_rfl
theorem block_of {w : World} {b : Nat} {e : TypeId} {v : Value} {n : Nat} {xs : List Value} (h : w.ownsRow b e 1 v n xs) {g : Nat} (hg : v.ownBlock = some g) : ∃ cur, w.heap[g]? = some (.cells cur e (0, 0)) := by
  rcases h.2 with ⟨hv, _⟩ | ⟨g', cap, cur, hv, _, hh, _⟩
  · rw [hv] at hg; cases hg
  · rw [hv] at hg
    cases hg
    exact ⟨cur, hh⟩
theorem set_bel {w : World} {b : Nat} {es : Array MapEntry} {clock : Nat} (hb : w.heap[b]? = some (.map es clock)) (o : Obj) : w.grownBy (setBlock w b o) (some b) :=
  ⟨rfl, rfl, rfl, by simp [setBlock], fun i _ hi => heap_setBlock_other hb _ (fun e => hi (by rw [e]))⟩
theorem note_entry {B b a : Nat} {L : List Int} {W : World} (h : Opn B b L a W) (hL : Bytes L) (ha : a + 4 ≤ L.length) (hLl : L.length ≤ 20000) (hB : B ≤ W.heap.size) :
    ∃ (v0 : Value) (st : Nat) (W1 : World) (n : Nat) (xs : List Value), (Instr.mapEntry 96 (.map (some b)) (keyV L a)).run Try.prog W = .ok (.tuple #[v0, .int .i64 (st : Int)]) W1 ∧ W1.ownsRow B 3 1 v0 n xs ∧ n ≤ a ∧ W1.heap.size = W.heap.size ∧ (∀ i, i ≠ b → W1.heap[i]? = W.heap[i]?) ∧
      ∀ v' w2, w2.ownsRow B 3 1 v' (n + 1) (xs ++ [.int .i64 (a : Int)]) → W1.grownBy w2 v0.ownBlock → (v'.ownBlock = v0.ownBlock ∨ v'.ownBlock = some W1.heap.size) →
        ∃ w3, (Instr.entryStore 96 (.map (some b)) (.int .i64 (st : Int)) v').run Try.prog w2 = .ok () w3 ∧ Opn B b L (a + 1) w3 ∧ Below b W w3 ∧ Fro b W w3 := by
  obtain ⟨es, clock, hb, S, hsz, hbB, h1, h2, h3⟩ := h
  obtain ⟨kl, hkey⟩ := keyV_has L hL a
  have hkeys : ∀ x ∈ es.toList, ∃ l, keyOf Try.prog 121 x.key = some l := fun x hx => by
    obtain ⟨p, _, _, p3, _⟩ := h1 x hx
    rw [p3]
    exact keyV_has L hL p
  obtain ⟨v0, st, es1, clock1, r1, r2, r3⟩ := entry_raw (t := 96) Try.opLaw Try.underlying96 zeroRow hb (by unfold maxLen; omega) S hkeys hkey
  have hbl : b < W.heap.size := (Array.getElem?_eq_some_iff.1 hb).1
  have hset := set_bel hb (.map es1 clock1)
  have hW1b : (setBlock W b (.map es1 clock1)).heap[b]? = some (.map es1 clock1) := heap_setBlock_same hb _
  have hoth : ∀ i, i ≠ b → (setBlock W b (.map es1 clock1)).heap[i]? = W.heap[i]? := fun i hi => heap_setBlock_other hb _ hi
  have hsz1 : (setBlock W b (.map es1 clock1)).heap.size = W.heap.size := by simp [setBlock]
  -- what the entry holds
  have hv0 : W.ownsRow B 3 1 v0 (plc L a a).length (intsN (plc L a a)) ∧ ∀ x ∈ es.toList, x.key ≠ keyV L a → x.val.ownBlock = none ∨ x.val.ownBlock ≠ v0.ownBlock := by
    rcases r2 with ⟨e0, m0, k0, rfl⟩ | ⟨hno, rfl⟩
    · obtain ⟨p, p1, p2, p3, p4⟩ := h1 e0 m0
      have hpa : keyV L p = keyV L a := by rw [← p3, k0]
      rw [plc_same hpa] at p4
      exact ⟨p4, fun x hx hne => h3 x hx e0 m0 (by rw [k0]; exact hne)⟩
    · have hnil : plc L a a = [] := plc_none fun q hq hq4 e => by
        obtain ⟨x, hx, hxk⟩ := h2 q hq hq4
        exact hno x hx (hxk.trans e)
      rw [hnil]
      refine ⟨World.ownsRow_nil _ _ _ _, fun x hx _ => ?_⟩
      cases x.val.ownBlock <;> simp [Value.ownBlock]
  obtain ⟨ho0, hap0⟩ := hv0
  have hv0b : ∀ g, v0.ownBlock = some g → B ≤ g ∧ g < W.heap.size := fun g hg => ho0.lt g hg
  have ho1 : (setBlock W b (.map es1 clock1)).ownsRow B 3 1 v0 (plc L a a).length (intsN (plc L a a)) := ho0.kept hset (by
    cases hv : v0.ownBlock with
    | none => exact Or.inl rfl
    | some g => exact Or.inr (fun e => by have := hv0b g hv; cases e; omega))
  refine ⟨v0, st, setBlock W b (.map es1 clock1), _, _, r1, ho1, plc_len L a a, hsz1, hoth, ?_⟩
  intro v' w2 ho2 hg2 hloc
  have hw2b : w2.heap[b]? = some (.map es1 clock1) := (hg2.block b (by rw [hsz1]; exact hbl) (fun e => by have := hv0b b e.symm; omega)).trans hW1b
  obtain ⟨es', clock', s1, s2, s3, s4, s5, s6⟩ := r3 w2 v' hw2b
  have hg3 := set_bel hw2b (.map es' clock')
  have hs12 := hg2.size
  rw [hsz1] at hs12
  -- a row that lies apart stays
  have keep : ∀ (u : Value) (m : Nat) (ys : List Value), W.ownsRow B 3 1 u m ys → (u.ownBlock = none ∨ u.ownBlock ≠ v0.ownBlock) → (setBlock w2 b (.map es' clock')).ownsRow B 3 1 u m ys := fun u m ys hu hne => by
    have hub : u.ownBlock = none ∨ u.ownBlock ≠ some b := by
      cases hu' : u.ownBlock with
      | none => exact Or.inl rfl
      | some g => exact Or.inr (fun e => by have := (hu.lt g hu').1; cases e; omega)
    exact ((hu.kept hset hub).kept hg2 hne).kept hg3 hub
  have hnewb : v'.ownBlock = none ∨ v'.ownBlock ≠ some b := by
    cases hu' : v'.ownBlock with
    | none => exact Or.inl rfl
    | some g => exact Or.inr (fun e => by have := (ho2.lt g hu').1; cases e; omega)
  have hnew : (setBlock w2 b (.map es' clock')).ownsRow B 3 1 v' (plc L a (a + 1)).length (intsN (plc L a (a + 1))) := by
    have e : plc L a (a + 1) = plc L a a ++ [a] := plc_succ_yes ha rfl
    rw [e, List.length_append, intsN, List.map_append]
    exact ho2.kept hg3 hnewb
  have hapart : ∀ x ∈ es.toList, x.key ≠ keyV L a → x.val.ownBlock = none ∨ x.val.ownBlock ≠ v'.ownBlock := fun x hx hne => by
    rcases hap0 x hx hne with g | g
    · exact Or.inl g
    · cases hxb : x.val.ownBlock with
      | none => exact Or.inl rfl
      | some gx =>
        refine Or.inr (fun e => ?_)
        rcases hloc with q | q
        · rw [q] at e
          exact g (by rw [hxb, e])
        · rw [q, hsz1] at e
          obtain ⟨p, _, _, _, p4⟩ := h1 x hx
          have := (p4.lt gx hxb).2
          cases e
          omega
  refine ⟨_, s1, ⟨es', clock', heap_setBlock_same hw2b _, s2, by omega, hbB, ?_, ?_, ?_⟩, ?_, ?_⟩
  · intro x hx
    rcases s4 x hx with ⟨x1, x2⟩ | ⟨x1, x2⟩
    · obtain ⟨p, p1, p2, p3, p4⟩ := h1 x x1
      refine ⟨p, by omega, p2, p3, ?_⟩
      rw [plc_succ_no (fun k => x2 (by rw [p3]; exact k.2.symm))]
      exact keep _ _ _ p4 (hap0 x x1 x2)
    · exact ⟨a, by omega, ha, x1, by rw [x2]; exact hnew⟩
  · intro p hp hp4
    by_cases hk : keyV L p = keyV L a
    · obtain ⟨x, hx, hxk⟩ := s6
      exact ⟨x, hx, by rw [hxk, hk]⟩
    · have hpa : p < a := by
        rcases Nat.lt_or_ge p a with g | g
        · exact g
        · exact absurd (by rw [show p = a by omega]) hk
      obtain ⟨x, hx, hxk⟩ := h2 p hpa hp4
      exact ⟨x, s5 x hx (by rw [hxk]; exact hk), hxk⟩
  · intro x hx y hy hne
    rcases s4 x hx with ⟨x1, x2⟩ | ⟨x1, x2⟩ <;> rcases s4 y hy with ⟨y1, y2⟩ | ⟨y1, y2⟩
    · exact h3 x x1 y y1 hne
    · rw [y2]
      exact hapart x x1 x2
    · rw [x2]
      cases hxb : v'.ownBlock with
      | none => exact Or.inl rfl
      | some gx =>
        refine Or.inr (fun e => ?_)
        rcases hapart y y1 y2 with q | q
        · rw [q] at e; cases e
        · exact q (by rw [hxb, e])
    · exact absurd (x1.trans y1.symm) hne
  · refine ⟨hg2.os.symm ▸ rfl, hg2.tape.symm ▸ rfl, hg2.output.symm ▸ rfl, by simp [setBlock]; omega, fun i hi => ?_⟩
    rw [heap_setBlock_other hw2b _ (by omega), hg2.block i (by rw [hsz1]; omega) (fun e => by have := hv0b i e.symm; omega), hoth i (by omega)]
  · intro i o hi hib hc
    have hil : i < W.heap.size := (Array.getElem?_eq_some_iff.1 hi).1
    rw [heap_setBlock_other hw2b _ hib, hg2.block i (by rw [hsz1]; exact hil) (fun e => by
      obtain ⟨cur, hcur⟩ := block_of ho0 e.symm
      rw [hcur] at hi
      exact hc cur (0, 0) (Option.some.inj hi).symm), hoth i hib]
    exact hi
theorem opn_end {B b a : Nat} {L : List Int} {w : World} (h : Opn B b L a w) (ha : ¬ a + 4 ≤ L.length) : Opn B b L (a + 1) w := by
  obtain ⟨es, clock, hb, S, hsz, hbB, h1, h2, h3⟩ := h
  refine ⟨es, clock, hb, S, by omega, hbB, fun x hx => ?_, fun p hp hp4 => h2 p (by omega) hp4, h3⟩
  obtain ⟨p, p1, p2, p3, p4⟩ := h1 x hx
  exact ⟨p, by omega, p2, p3, by rw [plc_succ_no (fun k => ha k.1)]; exact p4⟩
theorem fro_of_below {b : Nat} {w w' : World} (h : Below w.heap.size w w') : Fro b w w' := fun i o hi _ _ => (h.block i (Array.getElem?_eq_some_iff.1 hi).1).trans hi
theorem Fro.trans {b : Nat} {w w' w'' : World} (h : Fro b w w') (h2 : Fro b w' w'') : Fro b w w'' := fun i o hi hb hc => h2 i o (h i o hi hb hc) hb hc
set_option maxHeartbeats 1000000 in
set_option maxRecDepth 100000 in
theorem note_any (B b : Nat) (s : ByteArray) (a : Nat) (w : World) (h : Opn B b (byts s) a w) (ha : a < s.size) (hs : s.size ≤ 20000) (hB : B ≤ w.heap.size) :
    Calls Try.prog 84 #[.map (some b), .string s, .int .i64 (a : Int)] w fun e w' => e = .returned (.tuple #[]) ∧ Opn B b (byts s) (a + 1) w' ∧ Below b w w' ∧ Fro b w w' := by
  obtain ⟨i0, hi, hz0, hz1, hz2⟩ := info_parts Try.infoP
  have hbB : b < B := by obtain ⟨_, _, _, _, _, g, _⟩ := h; exact g
  have hbl : b < w.heap.size := by obtain ⟨_, _, g, _⟩ := h; exact (Array.getElem?_eq_some_iff.1 g).1
  by_cases h4 : a + 4 ≤ s.size
  focus
    go_enter Try.func84, Try.ntmps84
    go_wp2_with fail
    refine (openingAt_yes s a w h4 hs).mono ?_
    rintro e w1 ⟨rfl, hb1⟩
    have hs1 := hb1.size
    have hbw := (hb1.alloc hs1 (.cells #[.int .u8 ((byts s).getD a 0), .int .u8 ((byts s).getD (a + 1) 0), .int .u8 ((byts s).getD (a + 2) 0), .int .u8 ((byts s).getD (a + 3) 0)] 121)).alloc (by rw [World.size_alloc]; omega) (.cells #[.int .i64 (a : Int)] 3)
    obtain ⟨v0, st, W1, n, xs, r1, r2, r3, r4, r5, r6⟩ := note_entry (opn_below h hbw) (byts_ok s) (by rw [byts_len]; exact h4) (by rw [byts_len]; exact hs) (by have := hbw.size; omega)
    unfold keyV at r1 ⊢
    generalize (byts s).getD a 0 = x0 at r1 r4 r5 r6 hbw ⊢
    generalize (byts s).getD (a + 1) 0 = x1 at r1 r4 r5 r6 hbw ⊢
    generalize (byts s).getD (a + 2) 0 = x2 at r1 r4 r5 r6 hbw ⊢
    generalize (byts s).getD (a + 3) 0 = x3 at r1 r4 r5 r6 hbw ⊢
    have hn1 : ∀ j u, ([Value.int .i64 (a : Int)])[j]? = some u → W1.cell? ((⟨w1.heap.size + 1, 0, none⟩ : Addr).add j) = some u := by
      have hh := heap_alloc_new (w1.alloc (.cells #[.int .u8 x0, .int .u8 x1, .int .u8 x2, .int .u8 x3] 121)) (.cells #[.int .i64 (a : Int)] 3)
      rw [World.size_alloc, ← r5 (w1.heap.size + 1) (by omega)] at hh
      intro j u hj
      match j, hj with
      | 0, hj =>
        simp at hj
        subst hj
        have e : (⟨w1.heap.size + 1, 0, none⟩ : Addr).add 0 = ⟨w1.heap.size + 1, 0, none⟩ := by simp [Addr.add]
        rw [e, cell_of_row W1 (w1.heap.size + 1) 0 _ _ (0, 0) hh]
        rfl
    have hb1' : Below w.heap.size w w1 := hb1
    have hsW : W1.heap.size = w1.heap.size + 1 + 1 := by rw [r4]; simp
    have R6 := Lib.hid r6
    have HBW := Lib.hid hbw
    have HB1 := Lib.hid hb1
    clear r6 hbw hb1 hb1' r5 h r4
    go_wp2_with (at_builtin; refine wpList_append_own_at _ rfl _ _ 71 rfl B 3 i0 (.int .i64 0) 1 8 Try.underlying71 hi hz0 hz1 hz2 rfl (by decide) _ _ _ rfl r2 ⟨w1.heap.size + 1, 0, none⟩ 1 1 [.int .i64 (a : Int)] rfl rfl hn1 (ints_oneCell .i64 [(a : Int)]) (by unfold maxLen; omega) (by omega) (by omega) ?_)
    intro v' w2 ho2 hg2 _ hat
    obtain ⟨w3, s1, s2, s3, s4⟩ := R6.out v' w2 ho2 hg2 (by rw [hsW]; exact hat)
    clear R6 ho2 hg2 hat
    go_wp2
    refine bodyPost_end (results_none rfl _ _ _) rfl ?_
    exact ⟨rfl, s2, (HBW.out.mono (Nat.le_of_lt hbl)).trans s3, (fro_of_below HBW.out).trans s4⟩
  go_enter Try.func84, Try.ntmps84
  go_wp2_with fail
  refine (openingAt_no s a w (by omega) hs (by omega)).mono ?_
  rintro e w1 ⟨rfl, hb1⟩
  have hs1 := hb1.size
  have hbw := hb1.alloc hs1 (.cells #[.int .u8 0, .int .u8 0, .int .u8 0, .int .u8 0] 121)
  have hfin : Opn B b (byts s) (a + 1) (w1.alloc (.cells #[.int .u8 0, .int .u8 0, .int .u8 0, .int .u8 0] 121)) := opn_end (opn_below h hbw) (by rw [byts_len]; exact h4)
  have HF := Lib.hid hfin
  have HBW := Lib.hid hbw
  clear hfin hbw hb1 h
  go_wp2
  refine bodyPost_end (results_none rfl _ _ _) rfl ?_
  exact ⟨rfl, HF.out, HBW.out.mono (Nat.le_of_lt hbl), fro_of_below HBW.out⟩
end Go.Proofs.Ytgcpdifggjkdhab
