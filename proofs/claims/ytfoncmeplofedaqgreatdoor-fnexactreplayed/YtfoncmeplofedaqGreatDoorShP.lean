/- CONTRACT: the specification's l13Laid, of a shelf in a box. -/
import Derived.Test.YtfoncmeplofedaqGreatDoorShY
import Derived.Test.YtfoncmeplofedaqGreatDoorBuna
import Derived.Test.YtfoncmeplofedaqGreatDoorStoI
namespace Go.Proofs.YtfoncmeplofedaqGreatDoor
open Go.RowKit
set_option linter.unusedVariables false
theorem ShB.below {B0 B : Nat} {r : Int} {v : Value} {l : List It} {w w' : World} (h : ShB B0 B r v l w) (hb : Below w.heap.size w w') : ShB B0 B r v l w' :=
  ⟨(hb.block B h.lt).trans h.box, owns_below h.own hb, h.base, h.ne⟩
theorem own_setNe {w : World} {B : Nat} {e : TypeId} {k : Nat} {v : Value} {n : Nat} {xs : List Value} (h : w.ownsRow B e k v n xs) {p : Addr} (hp : ∀ q, v.ownBlock = some q → p.block ≠ q) (u : Value) : (w.setCell p u).ownsRow B e k v n xs := by
  rcases h.2 with h0 | ⟨g, cap, cur, rfl, h1, hh, h2⟩
  · exact ⟨h.1, .inl h0⟩
  · refine ⟨h.1, .inr ⟨g, cap, cur, rfl, h1, ?_, h2⟩⟩
    have := hp g rfl
    simp [World.setCell, Array.getElem?_modify, this, hh]
/-- a store into an item of the row -/
theorem ShB.stored {B0 B g n cap : Nat} {r : Int} {l : List It} {w : World} (h : ShB B0 B r (.slice (some ⟨g, 0, none⟩) n cap) l w) (hn : n = l.length) (j : Nat) (u : Value) (l' : List It) (hrow : (rowC itf l).set j u = rowC itf l') (hlen : l'.length = l.length) :
    ShB B0 B r (.slice (some ⟨g, 0, none⟩) n cap) l' (w.setCell ⟨g, j, none⟩ u) ∧ Below B0 w (w.setCell ⟨g, j, none⟩ u) := by
  have ho := h.own
  subst hn
  have hst := ho.stored j u
  rw [hrow] at hst
  have hgB : g ≠ B := fun e => h.ne (by rw [e]; rfl)
  have hb := h.lt
  refine ⟨⟨(hst.2.block B hb (fun e => hgB (Option.some.inj e).symm)).trans h.box, ?_, h.base, h.ne⟩, (Below.refl _ _).grown hst.2 (by have := h.base; omega) (fun q hq => by rw [← Option.some.inj hq]; exact (ho.lt g rfl).1)⟩
  have h9 := hst.1
  show World.ownsRow _ B0 69 5 _ l'.length _
  rw [hlen]
  exact h9
theorem rowC_inj : ∀ {l m : List It}, rowC itf l = rowC itf m → l = m
  | [], [], _ => rfl
  | [], q :: t, h => by simp [rowC, itf] at h
  | p :: s, [], h => by simp [rowC, itf] at h
  | p :: s, q :: t, h => by
    rw [rowC_cons, rowC_cons] at h
    obtain ⟨p1, p2, p3, p4, p5⟩ := p
    obtain ⟨q1, q2, q3, q4, q5⟩ := q
    simp only [itf, List.cons_append, List.nil_append, List.cons.injEq, Value.int.injEq, Value.string.injEq, Value.bool.injEq, true_and] at h
    obtain ⟨h1, h2, h3, h4, h5, h6⟩ := h
    rw [h1, h2, h3, h4, h5, rowC_inj h6]
theorem own_takeV {f : It → List Value} {k : Nat} {e : TypeId} (hf : Wid f k) {w : World} {B : Nat} {a : Addr} {n cap : Nat} {xs : List It} (h : OwnG f k e w B (.slice (some a) n cap) xs) (m : Nat) (hm : m ≤ xs.length) : OwnG f k e w B (.slice (some a) m cap) (xs.take m) := by
  have hl : (xs.take m).length = m := by rw [List.length_take]; omega
  rcases h.2 with ⟨h0, _⟩ | ⟨g, c, cur, hv, hB, hh, hn, hcm, hs, htk⟩
  · cases h0
  simp only [Value.slice.injEq, Option.some.injEq] at hv
  obtain ⟨rfl, _, rfl⟩ := hv
  refine ⟨by rw [rowC_len hf], .inr ⟨g, cap, cur, by rw [hl], hB, hh, by rw [hl]; omega, hcm, hs, ?_⟩⟩
  rw [hl, ← rowC_take hf xs m hm, ← htk, List.take_take, Nat.min_eq_left (Nat.mul_le_mul_right k hm)]
theorem l1Max13_any (a b : Int) (w : World) :
    Calls Tryz.prog 33 #[.int .i64 a, .int .i64 b] w fun e w' => e = .returned (.int .i64 (max a b)) ∧ w' = w := by
  by_cases h : b < a
  · have e : max a b = a := by omega
    rw [e]
    clear e
    go_enter Tryz.func33, Tryz.ntmps33
    go_wp2
    go_ret
    exact ⟨rfl, rfl⟩
  · have e : max a b = b := by omega
    rw [e]
    clear e
    go_enter Tryz.func33, Tryz.ntmps33
    go_wp2
    go_ret
    exact ⟨rfl, rfl⟩
theorem row_more (l : List It) (k : Nat) (st : Int) (h : k < l.length) :
    (if (l.getD k it0).2.2.2.1 < st then (((rowC itf l).set (k * 5 + 2) (.int .i64 (max (l.getD k it0).2.2.1 st))).set (k * 5 + 4) (.bool false)) else (rowC itf l).set (k * 5 + 2) (.int .i64 (max (l.getD k it0).2.2.1 st))) = rowC itf (l.set k (moreP st (l.getD k it0))) := by
  have hm : max (l.getD k it0).2.2.1 st = (if (l.getD k it0).2.2.1 < st then st else (l.getD k it0).2.2.1) := by split <;> omega
  rw [hm, it_set3 _ _ h]
  by_cases hc : (l.getD k it0).2.2.2.1 < st
  · rw [if_pos hc, it_set5 _ _ (by rw [List.length_set]; exact h), List.set_set]
    have e9 : ∀ p : It, (l.set k p).getD k it0 = p := fun p => by
      simp only [List.getD]
      rw [List.getElem?_set_self h]
      rfl
    rw [e9]
    unfold moreP
    rw [decide_eq_true hc]
    simp
  · rw [if_neg hc]
    unfold moreP
    rw [decide_eq_false hc]
    simp
set_option maxHeartbeats 8000000 in
set_option maxRecDepth 100000 in
theorem l13Laid_any (B0 B : Nat) (r : Int) (v : Value) (l : List It) (t : ByteArray) (st : Int) (w : World) (h : ShB B0 B r v l w) (hr : storeB (itBs l) = true) (hts : t.size ≤ 1048576) :
    Calls Tryz.prog 15 #[.pointer (some ⟨B, 0, none⟩), .string t, .int .i64 st] w fun e w' => e = .returned (.tuple #[.int .i64 (laidN l t st).2.1, .int .i64 (laidN l t st).2.2]) ∧ (∃ v', ShB B0 B r v' (laidN l t st).1 w') ∧ Below B0 w w' := by
  have hdt := itY.ty itW
  obtain ⟨s1, s2, s3⟩ := storeB_iff.1 hr
  have hl : l.length ≤ 300 := by rw [List.length_map] at s1; exact s1
  have hsz : ∀ p ∈ itBs l, p.2.size ≤ 1048576 := fun p hp => by have := (s2 p hp).1; omega
  have hblen : (itBs l).length = l.length := List.length_map _
  have hrise : l.Pairwise (fun p q => p.1 < q.1) := by
    have h9 : (l.map itB).Pairwise (fun p q => p.1 < q.1) := s3
    rw [List.pairwise_map] at h9
    exact h9
  have hc0 := h.c0
  have hc1 := h.c1
  have hbl := l13Blobs_any r v l w (rdG_owns itW h.own) (by omega)
  have HPUT : Hid (∀ (W : World) (vb : Value), W.ownsRow w.heap.size 67 2 vb l.length (blC (itBs l)) → Calls Tryz.prog 30 #[vb, .string t] W fun e w' => ∃ v, e = .returned (.tuple #[v, .int .i64 (putT (itBs l) t).2.1, .int .i64 (putT (itBs l) t).2.2]) ∧ Below W.heap.size W w') := fun W vb ho => by
    refine (specPut_any vb (itBs l) t W (rdB_owns (by rw [hblen]; exact ho)) (by omega) hsz hts).mono ?_
    rintro e w' ⟨v, rfl, _, hb⟩
    exact ⟨v, rfl, hb⟩
  have hsb0 := h
  obtain ⟨ao, cap, hva⟩ := ownG_shape h.own
  rcases put_codes (s := t) hr with ⟨k0, kz, kf, k300, ke⟩ | ⟨k0, kz, kf, ke⟩ | ⟨k0, k1, ke⟩
  · have hn : ∀ p ∈ l, p.1 ≠ digest t := fun q hq => findB_none.1 kf (itB q) (List.mem_map_of_mem hq)
    have eN : laidN l t st = (insI l (digest t, t, st, 0, false), digest t, 0) := by unfold laidN; rw [if_pos k0]
    rw [eN]
    rw [ke] at HPUT
    have HAT : Hid (∀ k, k ≤ l.length → (∀ j, j < k → (l.getD j it0).1 < digest t) → (k < l.length → ¬ (l.getD k it0).1 < digest t) → insI l (digest t, t, st, 0, false) = (l.take k ++ [(digest t, t, st, 0, false)]) ++ ([] ++ l.drop k)) := fun k hk h1 h2 => by
      rw [insI_at (x := (digest t, t, st, 0, false)) hrise hn hk h1 h2, List.nil_append]
    generalize insI l (digest t, t, st, 0, false) = R at HAT ⊢
    have hd9 := digest_in t
    generalize digest t = d at HPUT HAT hd9 ⊢
    clear ke eN k0 kz kf k300 hn s1 s2 s3 hr hsz hrise
    subst hva
    have HSB := Lib.hid h
    clear h hsb0
    go_enter Tryz.func15, Tryz.ntmps15
    go_wp2_with fail
    refine hbl.mono ?_
    rintro e w1 ⟨vb, rfl, hob, hb1⟩
    have hput := HPUT.out w1 vb hob
    clear hbl hob HPUT
    go_wp2_with fail
    refine hput.mono ?_
    rintro e w2 ⟨vp, rfl, hb2⟩
    have hB2 := hb1.trans (hb2.mono hb1.size)
    have hs2 := HSB.out.below hB2
    have HB2 := Lib.hid (hB2.mono (show B0 ≤ w.heap.size by have := HSB.out.base; have := HSB.out.lt; omega))
    clear hput hb1 hb2 hB2 hc0 hc1
    have c1 := hs2.c1
    have hBl := hs2.lt
    have hbase := hs2.base
    have hne := hs2.ne
    have hown := hs2.own
    have hbox := hs2.box
    have z1 := Lib.frozen_of_heap hbox 1
    have HRD : Hid (∀ k, k < l.length → ∃ b off, ao = some ⟨b, off, none⟩ ∧ w2.cell? ⟨b, off + k * 5, none⟩ = some (.int .i64 (l.getD k it0).1)) := fun k hk => by
      rcases rdG_cases (rdG_owns itW hown) with ⟨h0, _⟩ | ⟨_, b, off, c2, hv, _, hlt, hc⟩
      · rw [h0] at hk; exact absurd hk (Nat.not_lt_zero _)
      · simp only [Value.slice.injEq] at hv
        exact ⟨b, off, hv.1, (it_cells hc hk).1⟩
    obtain ⟨n, hnn⟩ : ∃ n, n = l.length := ⟨_, rfl⟩
    have HN := Lib.hid hnn
    rw [← hnn] at hl HAT HRD c1
    have HOWN : Hid (OwnI w2 B0 (.slice ao n cap) l) := by rw [← hnn] at hown; exact hown
    have HNE : Hid ((Value.slice ao n cap).ownBlock ≠ some B) := by rw [← hnn] at hne; exact hne
    have hncap : n ≤ cap := by
      rcases HOWN.out.2 with ⟨h0, _⟩ | ⟨g, c, cur, hv, _, _, hn, _⟩
      · simp only [Value.slice.injEq] at h0; omega
      · simp only [Value.slice.injEq] at hv; have := HN.out; omega
    clear hs2 hnn hown hne hblen
    go_wp2
    go_loopw [11] (fun i wr => ∃ k : Nat, k ≤ n ∧ i = .int .i64 (k : Int) ∧ wr = w2 ∧ Hid (∀ j, j < k → (l.getD j it0).1 < d)) (fun i _ => n - (intOf i).toNat)
    case atStart => exact ⟨0, Nat.zero_le _, rfl, rfl, fun j h => absurd h (Nat.not_lt_zero _)⟩
    case round =>
      rename World => wr
      obtain ⟨k, hk, rfl, hw, hok⟩ := hrel
      subst hw
      by_cases hltk : k < n
      · obtain ⟨b, off, rfl, c0⟩ := HRD.out k hltk
        have hnx : Hid ((l.getD k it0).1 < d → ∀ j, j < k + 1 → (l.getD j it0).1 < d) := fun e j hj => by
          rcases Nat.lt_or_ge j k with g | g
          · exact hok.out j g
          · obtain rfl : j = k := by omega
            exact e
        have hstop0 : Hid (¬ (l.getD k it0).1 < d → k < n → ¬ (l.getD k it0).1 < d) := fun e _ => e
        obtain ⟨x, hxx⟩ : ∃ x, x = (l.getD k it0).1 := ⟨_, rfl⟩
        rw [← hxx] at c0 hnx
        have HXX := Lib.hid hxx
        have hkI : (k : Int) < (n : Int) := by omega
        clear hxx
        by_cases hlt : x < d
        · have HS := Lib.hid (hnx.out hlt)
          clear hnx hok
          go_wp2
          go_roundw
          case rel => exact ⟨k + 1, by omega, by go_num, by first | rfl | trivial, HS⟩
          case measure => simp [intOf]; omega
        · have hstop : k < n → ¬ (l.getD k it0).1 < d := hstop0.out (by rw [← HXX.out]; exact hlt)
          clear hnx hstop0 HXX
          have hkc : k ≤ cap := by omega
          have HLN := Lib.hid (HAT.out k hk hok.out (fun h => by have := hstop h; omega))
          obtain ⟨u1, hsl1, hrd1⟩ := rd_fromG hdt itW HOWN.out k (by have := HN.out; omega)
          have hu2 := own_takeV itW HOWN.out k (by have := HN.out; omega)
          have hlt9 := HOWN.out.lt
          have hal := (Below.refl wr.heap.size wr).alloc (Nat.le_refl _) (.cells #[] 69)
          have hlit : OwnI (wr.alloc (.cells #[] 69)) wr.heap.size (.slice (some ⟨wr.heap.size, 0, none⟩) 0 0) [] := World.ownsRow_lit (base := wr.heap.size) (e := 69) (size := 5) wr #[] 0 (Nat.le_refl _) (Nat.zero_le _) rfl
          have hrd1' := rdG_below hrd1 hal
          have hdl : (l.drop k).length ≤ 300 := by rw [List.length_drop]; have := HN.out; omega
          have htl : (l.take k).length ≤ 300 := by rw [List.length_take]; omega
          have hl1 : ([] : List It).length + (l.drop k).length ≤ 16777216 := by rw [List.length_nil]; omega
          have hl2 : (l.take k).length + [(d, t, st, (0 : Int), false)].length ≤ 16777216 := by rw [List.length_singleton]; omega
          have hl3 : (l.take k ++ [(d, t, st, (0 : Int), false)]).length + ([] ++ l.drop k).length ≤ 16777216 := by rw [List.length_append, List.length_singleton, List.nil_append]; omega
          have hs6 : wr.heap.size ≤ (wr.alloc (.cells #[] 69)).heap.size := by rw [World.size_alloc]; omega
          have HBX := Lib.hid hbox
          clear hrd1 hstop hok HAT hbox
          go_wp2_with (at_builtin; refine own_stepG hdt itW rfl _ _ rfl wr.heap.size (.slice (some ⟨wr.heap.size, 0, none⟩) 0 0) u1 [] (l.drop k) rfl rfl hlit hrd1' hl1 hs6 ?_)
          intro v9 w9 ho9 hg9 hi9
          have hb9 : Below wr.heap.size wr w9 := hal.grown hg9 hs6 (fun q hq => by cases hq; exact Nat.le_refl _)
          have hu9 := owns_below hu2 hb9
          have hbx9 := (hb9.block B hBl).trans HBX.out
          have c19 := cell_of_row w9 B 1 _ _ (0, 0) hbx9
          simp only [List.getElem?_toArray, List.getElem?_cons_zero, List.getElem?_cons_succ] at c19
          have hs69 := hb9.size
          have hs0 : B0 ≤ wr.heap.size := by omega
          have hrA := rdG_one itW w9 (d, t, st, (0 : Int), false) 69
          have hoA := hu9.alloc (.cells #[.int .i64 d, .string t, .int .i64 st, .int .i64 0, .bool false] 69)
          have ho9A := ho9.alloc (.cells #[.int .i64 d, .string t, .int .i64 st, .int .i64 0, .bool false] 69)
          have hBA := (hb9.mono hs0).alloc (by omega) (.cells #[.int .i64 d, .string t, .int .i64 st, .int .i64 0, .bool false] 69)
          have hsA : B0 ≤ (w9.alloc (.cells #[.int .i64 d, .string t, .int .i64 st, .int .i64 0, .bool false] 69)).heap.size := Nat.le_trans hs0 hBA.size
          have hl9 : ([] ++ l.drop k).length ≤ 300 := by simpa using hdl
          have hub2 : ∀ q, (Value.slice (some (⟨b, off, none⟩ : Addr)) k cap).ownBlock = some q → q < wr.heap.size := fun q hq => (hlt9 q hq).2
          have hubB : ∀ q, (Value.slice (some (⟨b, off, none⟩ : Addr)) k cap).ownBlock = some q → q ≠ B := fun q hq e => HNE.out (hq.trans (congrArg some e))
          have hv9b : ∀ q, v9.ownBlock = some q → wr.heap.size ≤ q := fun q hq => (ho9.lt q hq).1
          clear hlit hrd1' hg9 hi9 hu2 hlt9 hu9 hal ho9
          go_wp2_with (at_builtin; refine own_stepG hdt itW rfl _ _ rfl B0 (.slice (some ⟨b, off, none⟩) k cap) (.slice (some ⟨w9.heap.size, 0, none⟩) 1 1) (l.take k) [(d, t, st, (0 : Int), false)] rfl rfl hoA hrA hl2 hsA ?_)
          intro v10 w10 ho10 hg10 hi10
          have hB10 : Below B0 wr w10 := hBA.grown hg10 hsA (fun q hq => (hoA.lt q hq).1)
          have ho9B := owns_grown ho9A hg10 (fun q hq hv => by have h1 := hub2 q hq; have h2 := hv9b q hv; omega)
          have hbx10 : w10.heap[B]? = _ := (hg10.block B (by rw [World.size_alloc]; omega) (fun e => hubB B e.symm rfl)).trans ((heap_alloc_old w9 _ (by omega)).trans hbx9)
          have hv10 : ∀ q, v10.ownBlock = some q → q ≠ B := fun q hq e => by
            rcases hi10 q hq with h9 | h9
            · exact hubB q h9 e
            · first | omega | (rw [World.size_alloc] at h9; omega)
          have hs10 : B0 ≤ w10.heap.size := by have := hB10.size; omega
          have hs10B : B < w10.heap.size := by have := hB10.size; omega
          clear hoA hrA hBA hsA ho9A hg10 hi10 hub2 hubB hv9b hbx9 c19
          go_wp2_with (at_builtin; refine own_stepG hdt itW rfl _ _ rfl B0 v10 v9 (l.take k ++ [(d, t, st, (0 : Int), false)]) ([] ++ l.drop k) rfl rfl ho10 (rdG_owns itW ho9B) hl3 hs10 ?_)
          intro v11 w11 ho11 hg11 hi11
          have hB11 : Below B0 wr w11 := hB10.grown hg11 hs10 (fun q hq => (ho10.lt q hq).1)
          have hbx11 : w11.heap[B]? = _ := (hg11.block B hs10B (fun e => hv10 B e.symm rfl)).trans hbx10
          have hv11 : ∀ q, v11.ownBlock = some q → q ≠ B := fun q hq e => by
            rcases hi11 q hq with h9 | h9
            · exact hv10 q h9 e
            · omega
          have z11 := Lib.frozen_of_heap hbx11 1
          have c11 := cell_of_row w11 B 1 _ _ (0, 0) hbx11
          simp only [List.getElem?_toArray, List.getElem?_cons_zero, List.getElem?_cons_succ] at c11
          have ho12 : OwnG itf 5 69 w11 B0 v11 R := by rw [HLN.out]; simpa using ho11
          obtain ⟨fo, fc, hvf⟩ := ownG_shape ho12
          have HFIN : Hid (ShB B0 B r v11 R (w11.setCell ⟨B, 1, none⟩ v11) ∧ Below B0 w (w11.setCell ⟨B, 1, none⟩ v11)) := by
            refine ⟨⟨by simp [World.setCell, Array.getElem?_modify, hbx11], ?_, hbase, fun e => hv11 B e rfl⟩, (HB2.out.trans hB11).setCell (p := ⟨B, 1, none⟩) hbase v11⟩
            exact own_setNe ho12 (fun q hq => fun e => hv11 q hq e.symm) v11
          subst hvf
          clear ho10 hg11 hi11 ho9B hB10 hB11 hbx10 hv10 hv11 ho11 ho12 hs10 hbx11
          go_wp2
          go_ret2
          exact ⟨rfl, ⟨_, HFIN.out.1⟩, HFIN.out.2⟩
      · obtain rfl : k = n := by omega
        have hkI : ¬ (k : Int) < (k : Int) := by omega
        have hstop : k < k → ¬ (l.getD k it0).1 < d := fun h => absurd h (Nat.lt_irrefl _)
        cases ao with
        | some a =>
          have hkc : k ≤ cap := by omega
          have HLN := Lib.hid (HAT.out k hk hok.out (fun h => by have := hstop h; omega))
          obtain ⟨u1, hsl1, hrd1⟩ := rd_fromG hdt itW HOWN.out k (by have := HN.out; omega)
          have hu2 := own_takeV itW HOWN.out k (by have := HN.out; omega)
          have hlt9 := HOWN.out.lt
          have hal := (Below.refl wr.heap.size wr).alloc (Nat.le_refl _) (.cells #[] 69)
          have hlit : OwnI (wr.alloc (.cells #[] 69)) wr.heap.size (.slice (some ⟨wr.heap.size, 0, none⟩) 0 0) [] := World.ownsRow_lit (base := wr.heap.size) (e := 69) (size := 5) wr #[] 0 (Nat.le_refl _) (Nat.zero_le _) rfl
          have hrd1' := rdG_below hrd1 hal
          have hdl : (l.drop k).length ≤ 300 := by rw [List.length_drop]; have := HN.out; omega
          have htl : (l.take k).length ≤ 300 := by rw [List.length_take]; omega
          have hl1 : ([] : List It).length + (l.drop k).length ≤ 16777216 := by rw [List.length_nil]; omega
          have hl2 : (l.take k).length + [(d, t, st, (0 : Int), false)].length ≤ 16777216 := by rw [List.length_singleton]; omega
          have hl3 : (l.take k ++ [(d, t, st, (0 : Int), false)]).length + ([] ++ l.drop k).length ≤ 16777216 := by rw [List.length_append, List.length_singleton, List.nil_append]; omega
          have hs6 : wr.heap.size ≤ (wr.alloc (.cells #[] 69)).heap.size := by rw [World.size_alloc]; omega
          have HBX := Lib.hid hbox
          clear hrd1 hstop hok HAT hbox
          go_wp2_with (at_builtin; refine own_stepG hdt itW rfl _ _ rfl wr.heap.size (.slice (some ⟨wr.heap.size, 0, none⟩) 0 0) u1 [] (l.drop k) rfl rfl hlit hrd1' hl1 hs6 ?_)
          intro v9 w9 ho9 hg9 hi9
          have hb9 : Below wr.heap.size wr w9 := hal.grown hg9 hs6 (fun q hq => by cases hq; exact Nat.le_refl _)
          have hu9 := owns_below hu2 hb9
          have hbx9 := (hb9.block B hBl).trans HBX.out
          have c19 := cell_of_row w9 B 1 _ _ (0, 0) hbx9
          simp only [List.getElem?_toArray, List.getElem?_cons_zero, List.getElem?_cons_succ] at c19
          have hs69 := hb9.size
          have hs0 : B0 ≤ wr.heap.size := by omega
          have hrA := rdG_one itW w9 (d, t, st, (0 : Int), false) 69
          have hoA := hu9.alloc (.cells #[.int .i64 d, .string t, .int .i64 st, .int .i64 0, .bool false] 69)
          have ho9A := ho9.alloc (.cells #[.int .i64 d, .string t, .int .i64 st, .int .i64 0, .bool false] 69)
          have hBA := (hb9.mono hs0).alloc (by omega) (.cells #[.int .i64 d, .string t, .int .i64 st, .int .i64 0, .bool false] 69)
          have hsA : B0 ≤ (w9.alloc (.cells #[.int .i64 d, .string t, .int .i64 st, .int .i64 0, .bool false] 69)).heap.size := Nat.le_trans hs0 hBA.size
          have hl9 : ([] ++ l.drop k).length ≤ 300 := by simpa using hdl
          have hub2 : ∀ q, (Value.slice (some a) k cap).ownBlock = some q → q < wr.heap.size := fun q hq => (hlt9 q hq).2
          have hubB : ∀ q, (Value.slice (some a) k cap).ownBlock = some q → q ≠ B := fun q hq e => HNE.out (hq.trans (congrArg some e))
          have hv9b : ∀ q, v9.ownBlock = some q → wr.heap.size ≤ q := fun q hq => (ho9.lt q hq).1
          clear hlit hrd1' hg9 hi9 hu2 hlt9 hu9 hal ho9
          go_wp2_with (at_builtin; refine own_stepG hdt itW rfl _ _ rfl B0 (.slice (some a) k cap) (.slice (some ⟨w9.heap.size, 0, none⟩) 1 1) (l.take k) [(d, t, st, (0 : Int), false)] rfl rfl hoA hrA hl2 hsA ?_)
          intro v10 w10 ho10 hg10 hi10
          have hB10 : Below B0 wr w10 := hBA.grown hg10 hsA (fun q hq => (hoA.lt q hq).1)
          have ho9B := owns_grown ho9A hg10 (fun q hq hv => by have h1 := hub2 q hq; have h2 := hv9b q hv; omega)
          have hbx10 : w10.heap[B]? = _ := (hg10.block B (by rw [World.size_alloc]; omega) (fun e => hubB B e.symm rfl)).trans ((heap_alloc_old w9 _ (by omega)).trans hbx9)
          have hv10 : ∀ q, v10.ownBlock = some q → q ≠ B := fun q hq e => by
            rcases hi10 q hq with h9 | h9
            · exact hubB q h9 e
            · first | omega | (rw [World.size_alloc] at h9; omega)
          have hs10 : B0 ≤ w10.heap.size := by have := hB10.size; omega
          have hs10B : B < w10.heap.size := by have := hB10.size; omega
          clear hoA hrA hBA hsA ho9A hg10 hi10 hub2 hubB hv9b hbx9 c19
          go_wp2_with (at_builtin; refine own_stepG hdt itW rfl _ _ rfl B0 v10 v9 (l.take k ++ [(d, t, st, (0 : Int), false)]) ([] ++ l.drop k) rfl rfl ho10 (rdG_owns itW ho9B) hl3 hs10 ?_)
          intro v11 w11 ho11 hg11 hi11
          have hB11 : Below B0 wr w11 := hB10.grown hg11 hs10 (fun q hq => (ho10.lt q hq).1)
          have hbx11 : w11.heap[B]? = _ := (hg11.block B hs10B (fun e => hv10 B e.symm rfl)).trans hbx10
          have hv11 : ∀ q, v11.ownBlock = some q → q ≠ B := fun q hq e => by
            rcases hi11 q hq with h9 | h9
            · exact hv10 q h9 e
            · omega
          have z11 := Lib.frozen_of_heap hbx11 1
          have c11 := cell_of_row w11 B 1 _ _ (0, 0) hbx11
          simp only [List.getElem?_toArray, List.getElem?_cons_zero, List.getElem?_cons_succ] at c11
          have ho12 : OwnG itf 5 69 w11 B0 v11 R := by rw [HLN.out]; simpa using ho11
          obtain ⟨fo, fc, hvf⟩ := ownG_shape ho12
          have HFIN : Hid (ShB B0 B r v11 R (w11.setCell ⟨B, 1, none⟩ v11) ∧ Below B0 w (w11.setCell ⟨B, 1, none⟩ v11)) := by
            refine ⟨⟨by simp [World.setCell, Array.getElem?_modify, hbx11], ?_, hbase, fun e => hv11 B e rfl⟩, (HB2.out.trans hB11).setCell (p := ⟨B, 1, none⟩) hbase v11⟩
            exact own_setNe ho12 (fun q hq => fun e => hv11 q hq e.symm) v11
          subst hvf
          clear ho10 hg11 hi11 ho9B hB10 hB11 hbx10 hv10 hv11 ho11 ho12 hs10 hbx11
          go_wp2
          go_ret2
          exact ⟨rfl, ⟨_, HFIN.out.1⟩, HFIN.out.2⟩
        | none =>
          have hv0 : k = 0 ∧ cap = 0 := by
            rcases HOWN.out.2 with ⟨h0, _⟩ | ⟨g, c, cur, hv, _⟩
            · simp only [Value.slice.injEq] at h0; exact ⟨h0.2.1, h0.2.2⟩
            · cases hv
          obtain ⟨rfl, rfl⟩ := hv0
          have hl0 : l = [] := List.eq_nil_of_length_eq_zero HN.out.symm
          subst hl0
          have HLN := Lib.hid (HAT.out 0 hk hok.out (fun h => by have := hstop h; omega))
          have hrd1 : RdG itf 5 wr (.slice none 0 0) ([] : List It) := ⟨none, 0, rfl, Nat.le_refl _, fun h => absurd rfl h⟩
          have hu2 : OwnI wr B0 (.slice none 0 0) (([] : List It)) := ownG_nil _ _ _
          have hlt9 := HOWN.out.lt
          have hal := (Below.refl wr.heap.size wr).alloc (Nat.le_refl _) (.cells #[] 69)
          have hlit : OwnI (wr.alloc (.cells #[] 69)) wr.heap.size (.slice (some ⟨wr.heap.size, 0, none⟩) 0 0) [] := World.ownsRow_lit (base := wr.heap.size) (e := 69) (size := 5) wr #[] 0 (Nat.le_refl _) (Nat.zero_le _) rfl
          have hrd1' := rdG_below hrd1 hal
          have hdl : (([] : List It)).length ≤ 300 := by simp
          have htl : (([] : List It)).length ≤ 300 := by simp
          have hl1 : ([] : List It).length + (([] : List It)).length ≤ 16777216 := by rw [List.length_nil]; omega
          have hl2 : (([] : List It)).length + [(d, t, st, (0 : Int), false)].length ≤ 16777216 := by rw [List.length_singleton]; omega
          have hl3 : (([] : List It) ++ [(d, t, st, (0 : Int), false)]).length + ([] ++ ([] : List It)).length ≤ 16777216 := by rw [List.length_append, List.length_singleton, List.nil_append]; omega
          have hs6 : wr.heap.size ≤ (wr.alloc (.cells #[] 69)).heap.size := by rw [World.size_alloc]; omega
          have HBX := Lib.hid hbox
          clear hrd1 hstop hok HAT hbox
          go_wp2_with (at_builtin; refine own_stepG hdt itW rfl _ _ rfl wr.heap.size (.slice (some ⟨wr.heap.size, 0, none⟩) 0 0) (.slice none 0 0) [] (([] : List It)) rfl rfl hlit hrd1' hl1 hs6 ?_)
          intro v9 w9 ho9 hg9 hi9
          have hb9 : Below wr.heap.size wr w9 := hal.grown hg9 hs6 (fun q hq => by cases hq; exact Nat.le_refl _)
          have hu9 := owns_below hu2 hb9
          have hbx9 := (hb9.block B hBl).trans HBX.out
          have c19 := cell_of_row w9 B 1 _ _ (0, 0) hbx9
          simp only [List.getElem?_toArray, List.getElem?_cons_zero, List.getElem?_cons_succ] at c19
          have hs69 := hb9.size
          have hs0 : B0 ≤ wr.heap.size := by omega
          have hrA := rdG_one itW w9 (d, t, st, (0 : Int), false) 69
          have hoA := hu9.alloc (.cells #[.int .i64 d, .string t, .int .i64 st, .int .i64 0, .bool false] 69)
          have ho9A := ho9.alloc (.cells #[.int .i64 d, .string t, .int .i64 st, .int .i64 0, .bool false] 69)
          have hBA := (hb9.mono hs0).alloc (by omega) (.cells #[.int .i64 d, .string t, .int .i64 st, .int .i64 0, .bool false] 69)
          have hsA : B0 ≤ (w9.alloc (.cells #[.int .i64 d, .string t, .int .i64 st, .int .i64 0, .bool false] 69)).heap.size := Nat.le_trans hs0 hBA.size
          have hl9 : ([] ++ ([] : List It)).length ≤ 300 := by simp
          have hub2 : ∀ q, (Value.slice none 0 0).ownBlock = some q → q < wr.heap.size := fun q hq => by cases hq
          have hubB : ∀ q, (Value.slice none 0 0).ownBlock = some q → q ≠ B := fun q hq e => by cases hq
          have hv9b : ∀ q, v9.ownBlock = some q → wr.heap.size ≤ q := fun q hq => (ho9.lt q hq).1
          clear hlit hrd1' hg9 hi9 hu2 hlt9 hu9 hal ho9
          go_wp2_with (at_builtin; refine own_stepG hdt itW rfl _ _ rfl B0 (.slice none 0 0) (.slice (some ⟨w9.heap.size, 0, none⟩) 1 1) (([] : List It)) [(d, t, st, (0 : Int), false)] rfl rfl hoA hrA hl2 hsA ?_)
          intro v10 w10 ho10 hg10 hi10
          have hB10 : Below B0 wr w10 := hBA.grown hg10 hsA (fun q hq => (hoA.lt q hq).1)
          have ho9B := owns_grown ho9A hg10 (fun q hq hv => by have h1 := hub2 q hq; have h2 := hv9b q hv; omega)
          have hbx10 : w10.heap[B]? = _ := (hg10.block B (by rw [World.size_alloc]; omega) (fun e => hubB B e.symm rfl)).trans ((heap_alloc_old w9 _ (by omega)).trans hbx9)
          have hv10 : ∀ q, v10.ownBlock = some q → q ≠ B := fun q hq e => by
            rcases hi10 q hq with h9 | h9
            · exact hubB q h9 e
            · first | omega | (rw [World.size_alloc] at h9; omega)
          have hs10 : B0 ≤ w10.heap.size := by have := hB10.size; omega
          have hs10B : B < w10.heap.size := by have := hB10.size; omega
          clear hoA hrA hBA hsA ho9A hg10 hi10 hub2 hubB hv9b hbx9 c19
          go_wp2_with (at_builtin; refine own_stepG hdt itW rfl _ _ rfl B0 v10 v9 (([] : List It) ++ [(d, t, st, (0 : Int), false)]) ([] ++ ([] : List It)) rfl rfl ho10 (rdG_owns itW ho9B) hl3 hs10 ?_)
          intro v11 w11 ho11 hg11 hi11
          have hB11 : Below B0 wr w11 := hB10.grown hg11 hs10 (fun q hq => (ho10.lt q hq).1)
          have hbx11 : w11.heap[B]? = _ := (hg11.block B hs10B (fun e => hv10 B e.symm rfl)).trans hbx10
          have hv11 : ∀ q, v11.ownBlock = some q → q ≠ B := fun q hq e => by
            rcases hi11 q hq with h9 | h9
            · exact hv10 q h9 e
            · omega
          have z11 := Lib.frozen_of_heap hbx11 1
          have c11 := cell_of_row w11 B 1 _ _ (0, 0) hbx11
          simp only [List.getElem?_toArray, List.getElem?_cons_zero, List.getElem?_cons_succ] at c11
          have ho12 : OwnG itf 5 69 w11 B0 v11 R := by rw [HLN.out]; simpa using ho11
          obtain ⟨fo, fc, hvf⟩ := ownG_shape ho12
          have HFIN : Hid (ShB B0 B r v11 R (w11.setCell ⟨B, 1, none⟩ v11) ∧ Below B0 w (w11.setCell ⟨B, 1, none⟩ v11)) := by
            refine ⟨⟨by simp [World.setCell, Array.getElem?_modify, hbx11], ?_, hbase, fun e => hv11 B e rfl⟩, (HB2.out.trans hB11).setCell (p := ⟨B, 1, none⟩) hbase v11⟩
            exact own_setNe ho12 (fun q hq => fun e => hv11 q hq e.symm) v11
          subst hvf
          clear ho10 hg11 hi11 ho9B hB10 hB11 hbx10 hv10 hv11 ho11 ho12 hs10 hbx11
          go_wp2
          go_ret2
          exact ⟨rfl, ⟨_, HFIN.out.1⟩, HFIN.out.2⟩
  · have eN : laidN l t st = (moreL (digest t) st l, digest t, 1) := by unfold laidN; rw [if_neg (by rw [k0]; decide), if_pos k0]
    rw [eN]
    rw [ke] at HPUT
    rcases find_cases (itBs l) (digest t) with ⟨k, hk, hfi, _, hkd⟩ | ⟨_, hfn, _⟩
    rotate_left
    · rw [hfn] at kf; cases kf
    have hkl : k < l.length := by rw [hblen] at hk; exact hk
    have hkd2 : (l.getD k it0).1 = digest t := by
      have h9 := itBs_get (l := l) hkl
      rw [h9] at hkd
      exact hkd
    have hmore := moreL_at st hrise hkl
    rw [hkd2] at hmore
    rw [hmore]
    have HROW := Lib.hid (row_more l k st hkl)
    have HF7 : Hid (∀ (W : World) (vb : Value), W.ownsRow w.heap.size 67 2 vb l.length (blC (itBs l)) → Calls Tryz.prog 32 #[vb, .int .i64 (digest t)] W fun e w' => e = .returned (.int .i64 (k : Int)) ∧ w' = W) := fun W vb ho => by
      have h9 := l7Find_any vb (itBs l) (digest t) W (rdB_owns (by rw [hblen]; exact ho)) (by omega)
      rw [hfi] at h9
      exact h9
    have HBL : Hid (∀ W : World, Below w.heap.size w W → Calls Tryz.prog 31 #[.agg #[.int .i64 r, v]] W fun e w' => ∃ vb, e = .returned vb ∧ w'.ownsRow w.heap.size 67 2 vb l.length (blC (itBs l)) ∧ Below w.heap.size w w') := fun W hW => by
      refine (l13Blobs_any r v l W (rdG_below (rdG_owns itW h.own) hW) (by omega)).mono ?_
      rintro e w' ⟨vb, rfl, h1, h2⟩
      exact ⟨vb, rfl, own_lower h1 hW.size, hW.trans (h2.mono hW.size)⟩
    generalize hMP : moreP st (l.getD k it0) = mp at HROW ⊢
    have hd9 := digest_in t
    generalize digest t = d at HPUT HF7 hd9 ⊢
    obtain ⟨g, hg0⟩ : ∃ g, ao = some ⟨g, 0, none⟩ := by
      rcases h.own.2 with ⟨h0, hn0⟩ | ⟨g, c, cur, hv, _⟩
      · omega
      · rw [hva] at hv; simp only [Value.slice.injEq] at hv; exact ⟨g, hv.1⟩
    subst hg0
    have HSB0 := Lib.hid h
    have HSB : Hid (∀ W : World, Below w.heap.size w W → ShB B0 B r v l W) := fun W hW => HSB0.out.below hW
    have hB0w : B0 ≤ w.heap.size := by have := h.base; have := h.lt; omega
    clear ke eN k0 kz kf s1 s2 s3 hr hsz hrise hmore hkd hkd2 hfi hk hMP h hsb0 hc0 hc1 hbl HSB0
    subst hva
    obtain ⟨n, hnn⟩ : ∃ n, n = l.length := ⟨_, rfl⟩
    have HX : Hid (∀ W : World, Below w.heap.size w W → W.cell? ⟨B, 0, none⟩ = some (.int .i64 r) ∧ W.cell? ⟨B, 1, none⟩ = some (.slice (some ⟨g, 0, none⟩) n cap)) := fun W hW => by
      have h9 := HSB.out W hW
      rw [hnn]
      exact ⟨h9.c0, h9.c1⟩
    have HIT : Hid (∀ W : World, Below w.heap.size w W → W.cell? ⟨g, k * 5 + 2, none⟩ = some (.int .i64 (l.getD k it0).2.2.1) ∧ W.cell? ⟨g, k * 5 + 3, none⟩ = some (.int .i64 (l.getD k it0).2.2.2.1) ∧ W.cell? ⟨g, k * 5 + 4, none⟩ = some (.bool (l.getD k it0).2.2.2.2) ∧ W.frozen? ⟨g, k * 5 + 2, none⟩ = false ∧ W.frozen? ⟨g, k * 5 + 4, none⟩ = false) := fun W hW => by
      have h9 := (HSB.out W hW).own
      obtain ⟨_, _, a, b, c⟩ := it_cells0 (cellsG_own itW h9) hkl
      exact ⟨a, b, c, h9.frozenAt _, h9.frozenAt _⟩
    have HST1 : Hid (∀ W : World, Below w.heap.size w W → ShB B0 B r (.slice (some ⟨g, 0, none⟩) n cap) (l.set k ((l.getD k it0).1, (l.getD k it0).2.1, max (l.getD k it0).2.2.1 st, (l.getD k it0).2.2.2.1, (l.getD k it0).2.2.2.2)) (W.setCell ⟨g, k * 5 + 2, none⟩ (.int .i64 (max (l.getD k it0).2.2.1 st))) ∧ Below B0 w (W.setCell ⟨g, k * 5 + 2, none⟩ (.int .i64 (max (l.getD k it0).2.2.1 st)))) := fun W hW => by
      have h9 := HSB.out W hW
      rw [← hnn] at h9
      obtain ⟨a, b⟩ := h9.stored hnn (k * 5 + 2) _ _ (it_set3 l k hkl _) (List.length_set ..)
      exact ⟨a, (hW.mono hB0w).trans b⟩
    have HST2 : Hid (∀ W : World, Below w.heap.size w W → (l.getD k it0).2.2.2.1 < st → ShB B0 B r (.slice (some ⟨g, 0, none⟩) n cap) (l.set k mp) ((W.setCell ⟨g, k * 5 + 2, none⟩ (.int .i64 (max (l.getD k it0).2.2.1 st))).setCell ⟨g, k * 5 + 4, none⟩ (.bool false)) ∧ Below B0 w ((W.setCell ⟨g, k * 5 + 2, none⟩ (.int .i64 (max (l.getD k it0).2.2.1 st))).setCell ⟨g, k * 5 + 4, none⟩ (.bool false))) := fun W hW hc => by
      obtain ⟨a, b⟩ := HST1.out W hW
      have hr9 := HROW.out
      rw [if_pos hc, it_set3 l k hkl] at hr9
      obtain ⟨a2, b2⟩ := a.stored (by rw [List.length_set]; exact hnn) (k * 5 + 4) (.bool false) (l.set k mp) hr9 (by rw [List.length_set, List.length_set])
      exact ⟨a2, b.trans b2⟩
    have HST3 : Hid (¬ (l.getD k it0).2.2.2.1 < st → l.set k ((l.getD k it0).1, (l.getD k it0).2.1, max (l.getD k it0).2.2.1 st, (l.getD k it0).2.2.2.1, (l.getD k it0).2.2.2.2) = l.set k mp) := fun hc => by
      have hr9 := HROW.out
      rw [if_neg hc, it_set3 l k hkl] at hr9
      exact rowC_inj hr9
    obtain ⟨x, hxx⟩ : ∃ x, x = l.getD k it0 := ⟨_, rfl⟩
    rw [← hxx] at HIT HST1 HST2 HST3
    obtain ⟨y1, y2, y3, y4, y5⟩ := x
    simp only at HIT HST1 HST2 HST3
    have hbl0 := HBL.out w (Below.refl _ _)
    obtain ⟨x0, x1⟩ := HX.out w (Below.refl _ _)
    have hkn : k < n := by omega
    have hnx : n ≤ 300 := by omega
    rw [← hnn] at hbl0 HBL HF7 HPUT
    clear hxx HROW hnn hkl hblen hl HSB
    go_enter Tryz.func15, Tryz.ntmps15
    go_wp2_with fail
    refine hbl0.mono ?_
    rintro e w1 ⟨vb, rfl, hob, hb1⟩
    have hput := HPUT.out w1 vb hob
    clear hbl0 hob HPUT
    go_wp2_with fail
    refine hput.mono ?_
    rintro e w2 ⟨vp, rfl, hb2⟩
    have hB2 := hb1.trans (hb2.mono hb1.size)
    clear hput hb1 hb2 x0 x1
    obtain ⟨x0, x1⟩ := HX.out w2 hB2
    have hbd : Below w.heap.size w w2.drew := hB2.drew
    go_wp2_with fail
    go_region_held (fun W : World => W.cell? ⟨B, 0, none⟩ = some (.int .i64 r) ∧ W.cell? ⟨B, 1, none⟩ = some (.slice (some ⟨g, 0, none⟩) n cap)) (first | exact HX.out _ hbd | exact HX.out _ hb3 | go_keep) (first
      | (go_at_call 32; refine (HF7.out _ _ ho3).mono ?_; rintro e w4 ⟨rfl, rfl⟩)
      | (go_at_call 31; refine (HBL.out _ hbd).mono ?_; rintro e w3 ⟨vb3, rfl, ho3, hb3⟩))
    obtain ⟨i2, i3, i4, z2, z4⟩ := HIT.out _ hb3
    have hmx := fun W => l1Max13_any y3 st W
    generalize max y3 st = mx at hmx HST1 HST2 HST3
    by_cases hc : y4 < st
    · have HS := Lib.hid (HST2.out _ hb3 hc)
      clear HST1 HST2 HST3 HIT HX HBL HF7 ho3 hb3 hbd hB2 x0 x1
      go_wp2_with fail
      refine (hmx _).mono ?_
      rintro e w5 ⟨rfl, rfl⟩
      clear hmx
      go_wp2
      go_ret2
      exact ⟨rfl, ⟨_, HS.out.1⟩, HS.out.2⟩
    · have h9 := HST1.out _ hb3
      rw [HST3.out (by first | exact hc | omega)] at h9
      have HS := Lib.hid h9
      clear HST1 HST2 HST3 HIT HX HBL HF7 ho3 hb3 hbd hB2 x0 x1 h9
      go_wp2_with fail
      refine (hmx _).mono ?_
      rintro e w5 ⟨rfl, rfl⟩
      clear hmx
      go_wp2
      go_ret2
      exact ⟨rfl, ⟨_, HS.out.1⟩, HS.out.2⟩
  · have eN : laidN l t st = (l, 0, (putT (itBs l) t).2.2) := by unfold laidN; rw [if_neg k0, if_neg k1]
    rw [eN]
    have e0 : (putT (itBs l) t).2.1 = 0 := by rw [ke]
    rw [e0] at HPUT
    generalize (putT (itBs l) t).2.2 = c at HPUT k0 k1 ⊢
    have g0 : (c == 0) = false := by simpa using k0
    have g1 : (c == 1) = false := by simpa using k1
    clear ke eN e0 k0 k1 s1 s2 s3 hr hsz hrise hblen
    subst hva
    have HSB := Lib.hid h
    clear h hsb0
    go_enter Tryz.func15, Tryz.ntmps15
    go_wp2_with fail
    refine hbl.mono ?_
    rintro e w1 ⟨vb, rfl, hob, hb1⟩
    have hput := HPUT.out w1 vb hob
    clear hbl hob HPUT
    go_wp2_with fail
    refine hput.mono ?_
    rintro e w2 ⟨vp, rfl, hb2⟩
    have hB2 := hb1.trans (hb2.mono hb1.size)
    have HS2 := Lib.hid (HSB.out.below hB2)
    have HB2 := Lib.hid (hB2.mono (show B0 ≤ w.heap.size by have := HSB.out.base; have := HSB.out.lt; omega))
    clear hput hb1 hb2 hB2 HSB
    go_wp2
    go_ret2
    exact ⟨rfl, ⟨_, HS2.out⟩, HB2.out⟩
end Go.Proofs.YtfoncmeplofedaqGreatDoor
