/- CONTRACTS: the program's longest: the nearest of the longest. -/
import Derived.Test.YtgcpdifggjkdhabSqN
import Derived.WalkMore
import Derived.Deep.LoopGhost
namespace Go.Proofs.Ytgcpdifggjkdhab
open Go.RowKit Go.MapKept
set_option linter.unusedVariables false

theorem run_len {L : List Int} {a d : Nat} (ha : a ≤ L.length) : Sq.run L a d ≤ 60 ∧ a + Sq.run L a d ≤ L.length := by
  refine ⟨Sq.runK_le _ _ _ _, ?_⟩
  rcases Sq.runK_len L (a - d) a 60 with h | h
  · exact h
  · show a + Sq.runK L (a - d) a 60 ≤ L.length
    omega
theorem run_four {L : List Int} {a d : Nat} (h : ∀ i, i < 4 → Sq.On L (a - d) a i) : 4 ≤ Sq.run L a d := by
  show 4 ≤ Sq.runK L (a - d) a 60
  rcases Nat.lt_or_ge (Sq.runK L (a - d) a 60) 4 with g | g
  · rcases Sq.runK_end L (a - d) a 60 with k | k
    · omega
    · exact absurd (h _ g) k
  · exact g
theorem run_mem {L : List Int} {a d : Nat} (hd : 1 ≤ d) (hda : d ≤ a) (h : 4 ≤ Sq.run L a d) : a - d ∈ plc L a a := by
  have hon : ∀ i, i < 4 → Sq.On L (a - d) a i := fun i hi => Sq.runK_on L (a - d) a 60 i (Nat.lt_of_lt_of_le hi h)
  have h3 := (hon 3 (by omega)).1
  exact plc_mem.2 ⟨by omega, by omega, (keyV_on (by omega)).2 hon⟩
/-- no place between: the best stays -/
theorem best_gap {L : List Int} {a d0 e j : Nat} (hlow : ∀ t, j ≤ t → t < (plc L a a).length → a - (plc L a a).getD t 0 ≤ d0) (hhigh : ∀ t, t < j → t < (plc L a a).length → e < a - (plc L a a).getD t 0) (he : e ≤ a) (hd : d0 ≤ e) : Sq.bestK L a e = Sq.bestK L a d0 := by
  refine Sq.bestK_same e hd (fun k k1 k2 => ?_)
  rcases Nat.lt_or_ge (Sq.run L a k) 4 with g | g
  · exact Or.inl g
  · exfalso
    obtain ⟨t, ht, hte⟩ := List.getElem_of_mem (run_mem (by omega) (by omega) g)
    have e1 : (plc L a a).getD t 0 = a - k := by rw [← hte]; simp [List.getD, ht]
    rcases Nat.lt_or_ge t j with q | q
    · have := hhigh t q ht
      omega
    · have := hlow t q ht
      omega
theorem plc_lt {L : List Int} {a n u v : Nat} (h : u < v) (hv : v < (plc L a n).length) : (plc L a n).getD u 0 < (plc L a n).getD v 0 := by
  have := List.pairwise_iff_getElem.1 (plc_rise L a n) u v (by omega) hv h
  simpa [List.getD, hv, show u < (plc L a n).length by omega] using this
theorem plc_at {L : List Int} {a n t : Nat} (h : t < (plc L a n).length) : (plc L a n).getD t 0 < n ∧ (plc L a n).getD t 0 + 4 ≤ L.length ∧ keyV L ((plc L a n).getD t 0) = keyV L a := by
  have e : (plc L a n).getD t 0 = (plc L a n)[t] := by simp [List.getD, h]
  rw [e]
  exact plc_mem.1 (List.getElem_mem h)
theorem ints_cellN (l : List Nat) (i : Nat) (h : i < l.length) : (intsN l)[i]? = some (.int .i64 ((l.getD i 0 : Nat) : Int)) := by
  simp [intsN, List.getD, h]

/-- the map at its place, looked up -/
theorem opn_look {B b a : Nat} {L : List Int} {W : World} (h : Opn B b L a W) (hL : Bytes L) (hLl : L.length ≤ 20000) (haL : a ≤ L.length) :
    ((Instr.lookup 96 (.map (some b)) (keyV L a) false).run Try.prog W = .ok (.slice none 0 0) W ∧ plc L a a = []) ∨
    ∃ g cap, (Instr.lookup 96 (.map (some b)) (keyV L a) false).run Try.prog W = .ok (.slice (some ⟨g, 0, none⟩) (plc L a a).length cap) W ∧ 0 < (plc L a a).length ∧ g < W.heap.size ∧ ∀ t, t < (plc L a a).length → W.cell? ⟨g, t, none⟩ = some (.int .i64 (((plc L a a).getD t 0 : Nat) : Int)) := by
  obtain ⟨es, clock, hb, S, hsz, hbB, h1, h2, h3⟩ := h
  obtain ⟨kl, hkey⟩ := keyV_has L hL a
  have hkeys : ∀ x ∈ es.toList, ∃ l, keyOf Try.prog 121 x.key = some l := fun x hx => by
    obtain ⟨p, _, _, p3, _⟩ := h1 x hx
    rw [p3]
    exact keyV_has L hL p
  rcases look_raw (t := 96) Try.opLaw Try.underlying96 (zeroRow W) hb (by unfold maxLen; omega) S hkeys hkey with ⟨r1, r2⟩ | ⟨x, hx, hxk, r1⟩
  · refine Or.inl ⟨r1, plc_none fun q hq hq4 e => ?_⟩
    obtain ⟨x, hx, hxk⟩ := h2 q hq hq4
    exact r2 x hx (hxk.trans e)
  · right
    obtain ⟨p, p1, p2, p3, p4⟩ := h1 x hx
    have hpa : keyV L p = keyV L a := by rw [← p3, hxk]
    rw [plc_same hpa] at p4
    have hpos : 0 < (plc L a a).length := List.length_pos_of_mem (plc_mem.2 ⟨p1, p2, hpa⟩)
    obtain ⟨g, cap, hv, hg⟩ := owns_head p4 hpos
    refine ⟨g, cap, by rw [← hv]; exact r1, hpos, (p4.lt g hg).2, fun t ht => ?_⟩
    rw [hv] at p4
    rw [p4.cellAt t (by omega), ints_cellN _ t ht]
set_option maxHeartbeats 4000000 in
set_option maxRecDepth 100000 in
theorem longest_any (B b : Nat) (s : ByteArray) (a : Nat) (w : World) (h : Opn B b (byts s) a w) (ha : a < s.size) (hs : s.size ≤ 20000) (hB : B ≤ w.heap.size) :
    Calls Try.prog 83 #[.map (some b), .string s, .int .i64 (a : Int)] w fun e w' => e = .returned (.tuple #[.int .i64 (((Sq.best (byts s) a).1 : Nat) : Int), .int .i64 (((Sq.best (byts s) a).2 : Nat) : Int)]) ∧ Below w.heap.size w w' := by
  have HBL : Hid ((byts s).length = s.size) := byts_len s
  have hlen := byts_len s
  by_cases h4 : a + 4 ≤ s.size
  rotate_left
  focus
    have hbest : Sq.best (byts s) a = (0, 0) := Sq.bestK_same (min 200 a) (Nat.zero_le _) (fun k _ _ => Or.inl (by have := (run_len (L := byts s) (a := a) (d := k) (by omega)).2; omega))
    rw [hbest]
    clear hbest h
    go_enter Try.func83, Try.ntmps83
    go_wp2_with fail
    go_step3
    go_wp2_with fail
    refine (openingAt_no s a w (by omega) hs (by omega)).mono ?_
    rintro e w1 ⟨rfl, hb1⟩
    have hs1 := hb1.size
    have HB1 := Lib.hid (hb1.alloc hs1 (.cells #[.int .u8 0, .int .u8 0, .int .u8 0, .int .u8 0] 121))
    clear hb1
    go_wp2
    try rw [Exit.noGoto_ret]
    go_ret2
    exact ⟨rfl, HB1.out⟩
  go_enter Try.func83, Try.ntmps83
  go_wp2_with fail
  go_step3
  go_wp2_with fail
  refine (openingAt_yes s a w h4 hs).mono ?_
  rintro e w1 ⟨rfl, hb1⟩
  have hs1 := hb1.size
  have hbw := hb1.alloc hs1 (.cells #[.int .u8 ((byts s).getD a 0), .int .u8 ((byts s).getD (a + 1) 0), .int .u8 ((byts s).getD (a + 2) 0), .int .u8 ((byts s).getD (a + 3) 0)] 121)
  have hlook := opn_look (opn_below h hbw) (byts_ok s) (by rw [byts_len]; exact hs) (by rw [byts_len]; omega)
  have HPL : Hid (∀ t, t < (plc (byts s) a a).length → (plc (byts s) a a).getD t 0 < a ∧ (plc (byts s) a a).getD t 0 + 4 ≤ s.size ∧ ∀ i, i < 4 → Sq.On (byts s) ((plc (byts s) a a).getD t 0) a i) := fun t ht => by
    obtain ⟨q1, q2, q3⟩ := plc_at ht
    exact ⟨q1, by rw [byts_len] at q2; exact q2, (keyV_on (by omega)).1 q3⟩
  have HRISE : Hid (∀ u v, u < v → v < (plc (byts s) a a).length → (plc (byts s) a a).getD u 0 < (plc (byts s) a a).getD v 0) := fun u v h1 h2 => plc_lt h1 h2
  have HGAP : Hid (∀ d0 e j, (∀ t, j ≤ t → t < (plc (byts s) a a).length → a - (plc (byts s) a a).getD t 0 ≤ d0) → (∀ t, t < j → t < (plc (byts s) a a).length → e < a - (plc (byts s) a a).getD t 0) → e ≤ a → d0 ≤ e → Sq.bestK (byts s) a e = Sq.bestK (byts s) a d0) := fun d0 e j h1 h2 h3 h4 => best_gap h1 h2 h3 h4
  have HRL : Hid (∀ d, Sq.run (byts s) a d ≤ 60 ∧ a + Sq.run (byts s) a d ≤ s.size) := fun d => by rw [← HBL.out]; exact run_len (by rw [HBL.out]; omega)
  have HBW := Lib.hid hbw
  clear hbw hb1 h hlen
  obtain ⟨n, hn⟩ : ∃ n, n = (plc (byts s) a a).length := ⟨_, rfl⟩
  have hna : n ≤ a := by rw [hn]; exact plc_len _ _ _
  generalize plc (byts s) a a = ps at hlook HPL HRISE HGAP hn
  unfold keyV at hlook ⊢
  generalize (byts s).getD a 0 = x0 at hlook HBW ⊢
  generalize (byts s).getD (a + 1) 0 = x1 at hlook HBW ⊢
  generalize (byts s).getD (a + 2) 0 = x2 at hlook HBW ⊢
  generalize (byts s).getD (a + 3) 0 = x3 at hlook HBW ⊢
  obtain ⟨most, hmost⟩ : ∃ most, most = min 60 (s.size - a) := ⟨_, rfl⟩
  have hmn : (if (s.size : Int) - (a : Int) < 60 then (s.size : Int) - (a : Int) else 60) = (most : Int) := by split <;> omega
  have hm60 : most ≤ 60 := by omega
  have hm4 : 4 ≤ most := by omega
  have hmsz : a + most ≤ s.size := by omega
  have HMOST := Lib.hid hmost
  rw [← hn] at hlook HPL HRISE HGAP
  have HNN := Lib.hid hn
  clear hmost hn
  rcases hlook with ⟨hrun, hnil⟩ | ⟨g, cap, hrun, hpos, hgl, hcells⟩
  focus
    have hbest : Sq.best (byts s) a = (0, 0) := by
      have hn0 : n = 0 := by rw [HNN.out, hnil]; rfl
      exact HGAP.out 0 (min 200 a) 0 (fun t _ h => by omega) (fun t h => by omega) (by omega) (Nat.zero_le _)
    have HE := Lib.hid hbest
    clear hbest HGAP HPL HRISE HRL hnil
    go_wp2
    go_step3
    go_wp2
    refine wp_loop_rounds 1 ?_
    rw [rounds_succ]
    go_wp2
    try rw [Exit.noGoto_ret]
    go_ret2
    exact ⟨ret_pair (by rw [HE.out]; rfl) (by rw [HE.out]; rfl), HBW.out⟩
  have HC := Lib.hid hcells
  clear hcells
  go_wp2
  clear hrun
  generalize w1.alloc (.cells #[.int .u8 x0, .int .u8 x1, .int .u8 x2, .int .u8 x3] 121) = w2 at hgl HC HBW ⊢
  go_step3
  go_wp2
  go_loopw [8, 9, 14] (fun p q i wr => ∃ (I : Int) (j x y d0 r : Nat), i = .int .i64 I ∧ p = .int .i64 x ∧ q = .int .i64 y ∧ I = (j : Int) - 1 ∧ j ≤ n ∧ d0 ≤ 200 ∧ d0 ≤ a ∧ x < most ∧ Hid (Sq.bestK (byts s) a d0 = (x, y)) ∧ Hid (∀ t, j ≤ t → t < n → a - ps.getD t 0 ≤ d0) ∧ Hid (∀ t, t < j → d0 < a - ps.getD t 0) ∧ wr = w2.drewN r) (fun _ _ i _ => (intOf i + 1).toNat)
  case atStart => exact ⟨(n : Int) - 1, n, 0, 0, 0, 0, rfl, rfl, rfl, rfl, Nat.le_refl _, by omega, by omega, by omega, rfl, fun t h1 h2 => by omega, fun t ht => by have := (HPL.out t ht).1; omega, rfl⟩
  case round =>
    obtain ⟨I, j, x, y, d0, r, rfl, rfl, rfl, hI, hj, hd200, hda, hxm, hbk, hlow, hhigh, rfl⟩ := hrel
    by_cases hj0 : j = 0
    focus
      have hIn : I < 0 := by omega
      have hIge : ¬ (0 : Int) ≤ I := by omega
      subst hj0
      clear hI
      have hbest : Sq.best (byts s) a = (x, y) := by
        have e := HGAP.out d0 (min 200 a) 0 (fun t h1 h2 => hlow.out t h1 h2) (fun t h => by omega) (by omega) (by omega)
        unfold Sq.best
        rw [e]
        exact hbk.out
      have HE := Lib.hid hbest
      clear hbest hlow hhigh hbk HGAP HPL HRISE
      go_wp2
      try rw [Exit.noGoto_ret]
      go_ret2
      exact ⟨ret_pair (by rw [HE.out]) (by rw [HE.out]), below_drewN HBW.out _⟩
    obtain ⟨t, rfl⟩ : ∃ t, j = t + 1 := ⟨j - 1, by omega⟩
    obtain rfl : I = (t : Int) := by omega
    have htn : t < n := by omega
    have hcell := HC.out t htn
    have hpl := HPL.out t htn
    have hri := HRISE.out
    have hht := hhigh.out t (Nat.lt_succ_self t)
    obtain ⟨q, hq⟩ : ∃ q, q = ps.getD t 0 := ⟨_, rfl⟩
    rw [← hq] at hcell hpl hht
    obtain ⟨hqa, hq4, hqon⟩ := hpl
    have HQ := Lib.hid hq
    have hbk1 : Hid (Sq.bestK (byts s) a (a - q - 1) = (x, y)) := by
      show _ = _
      rw [HGAP.out d0 (a - q - 1) (t + 1) hlow.out (fun u h1 h2 => by
        rcases Nat.lt_or_ge u t with g | g
        · have := hri u t g htn
          omega
        · have : u = t := by omega
          rw [this]
          omega) (by omega) (by omega)]
      exact hbk.out
    have hlow2 : Hid (∀ u, t ≤ u → u < n → a - ps.getD u 0 ≤ a - q) := fun u h1 h2 => by
      rcases Nat.lt_or_ge t u with g | g
      · have := hri t u g h2
        omega
      · have : u = t := by omega
        rw [this]
        omega
    have hhigh2 : Hid (∀ u, u < t → a - q < a - ps.getD u 0) := fun u h1 => by
      have := hri u t h1 htn
      omega
    have HQON := Lib.hid hqon
    clear hq hri hqon hI
    by_cases h200 : a - q ≤ 200
    rotate_left
    focus
      have hbest : Sq.best (byts s) a = (x, y) := by
        have e := HGAP.out d0 (min 200 a) (t + 1) hlow.out (fun u h1 h2 => by
          rcases Nat.lt_or_ge u t with g | g
          · have := hhigh2.out u g
            omega
          · have : u = t := by omega
            rw [this, ← HQ.out]
            omega) (by omega) (by omega)
        unfold Sq.best
        rw [e]
        exact hbk.out
      have HE := Lib.hid hbest
      have hI200 : ¬ (a : Int) - (q : Int) ≤ 200 := by omega
      clear hbest hlow hhigh hbk HGAP HPL HRISE hlow2 hhigh2 hbk1
      go_wp2
      try rw [Exit.noGoto_ret]
      go_ret2
      exact ⟨ret_pair (by rw [HE.out]) (by rw [HE.out]), below_drewN HBW.out _⟩
    have hI200 : (a : Int) - (q : Int) ≤ 200 := by omega
    have hda2 : a - (a - q) = q := by omega
    have HBA := bestK_at (L := byts s) (a := a) (d := a - q) (x := x) (y := y) (by omega) hbk1.out
    have HRLq := HRL.out (a - q)
    have HRUN : Hid (∀ m, m ≤ 60 → (∀ i, i < m → Sq.On (byts s) q a i) → (m = 60 ∨ ¬ Sq.On (byts s) q a m) → Sq.run (byts s) a (a - q) = m) := fun m h1 h2 h3 => by
      have := Sq.runK_is (L := byts s) (p := q) (a := a) h1 h2 h3
      unfold Sq.run
      rw [hda2]
      exact this
    have HRGE : Hid (∀ m, m ≤ 60 → (∀ i, i < m → Sq.On (byts s) q a i) → m ≤ Sq.run (byts s) a (a - q)) := fun m h1 h2 => by
      unfold Sq.run
      rw [hda2]
      rcases Nat.lt_or_ge (Sq.runK (byts s) q a 60) m with g | g
      · rcases Sq.runK_end (byts s) q a 60 with k | k
        · omega
        · exact absurd (h2 _ g) k
      · exact g
    obtain ⟨R, hR⟩ : ∃ R, R = Sq.run (byts s) a (a - q) := ⟨_, rfl⟩
    rw [← hR] at HBA HRLq HRUN HRGE
    have HB := Lib.hid HBA
    clear HBA hR hlow hhigh hbk hbk1 hda2
    have hxm60 : x < 60 := by omega
    go_wp2
    go_loopw [8, 9, 15] (fun p q9 i wr => ∃ (m x2 y2 r2 : Nat), i = .int .i64 m ∧ p = .int .i64 x2 ∧ q9 = .int .i64 y2 ∧ m < most ∧ x2 < most ∧ Hid ((x2, y2) = if x < m then (m, a - q) else (x, y)) ∧ Hid (∀ i, i < m → Sq.On (byts s) q a i) ∧ wr = w2.drewN r2) (fun _ _ i _ => most - (intOf i).toNat)
    case atStart => exact ⟨0, x, y, _, rfl, rfl, rfl, by omega, hxm, by show _ = _; rw [if_neg (by omega)], fun i h => by omega, rfl⟩
    case round =>
      obtain ⟨m, x2, y2, r2, rfl, rfl, rfl, hmm, hx2m, hxy, hon, rfl⟩ := hrel
      have hxa := str_atI s (q + m) ((q : Int) + (m : Int)) (by omega) (by omega)
      have hxb := str_atI s (a + m) ((a : Int) + (m : Int)) (by omega) (by omega)
      have hra := byts_range s (q + m)
      have hrb := byts_range s (a + m)
      have HON : Hid (Sq.On (byts s) q a m ↔ (byts s).getD (q + m) 0 = (byts s).getD (a + m) 0) := by
        show _ ↔ _
        unfold Sq.On
        rw [HBL.out]
        exact ⟨fun h => h.2, fun h => ⟨by omega, h⟩⟩
      obtain ⟨u, hu⟩ : ∃ u, u = (byts s).getD (q + m) 0 := ⟨_, rfl⟩
      obtain ⟨v, hv⟩ : ∃ v, v = (byts s).getD (a + m) 0 := ⟨_, rfl⟩
      rw [← hu] at hxa hra HON
      rw [← hv] at hxb hrb HON
      clear hu hv
      have htI : (t : Int) < (n : Int) := by omega
      by_cases huv : u = v
      rotate_left
      focus
        have huvD : (u == v) = false := by simp [huv]
        have hRm : R = m := HRUN.out m (by omega) hon.out (Or.inr (fun h => huv (HON.out.1 h)))
        have hm4' : 4 ≤ m := by
          rcases Nat.lt_or_ge m 4 with g | g
          · exact absurd (HON.out.1 (HQON.out m g)) huv
          · exact g
        have hnew : Hid (Sq.bestK (byts s) a (a - q) = (x2, y2)) := by
          show _ = _
          rw [HB.out, hxy.out, hRm]
          by_cases g : x < m
          · rw [if_pos g, if_pos ⟨hm4', g⟩]
          · rw [if_neg g, if_neg (fun k => g k.2)]
        clear hxy hon HON HB HRUN HRGE
        go_wp2
        go_quiet (fail)
        go_wp2
        go_roundw
        case rel => exact ⟨(t : Int) - 1, t, x2, y2, a - q, _, rfl, rfl, rfl, rfl, by omega, h200, by omega, hx2m, hnew, hlow2, hhigh2, rfl⟩
        case measure => simp [intOf]
      subst huv
      have hnew : Hid (∀ i, i < m + 1 → Sq.On (byts s) q a i) := fun i hi => by
        rcases Nat.lt_or_ge i m with g | g
        · exact hon.out i g
        · obtain rfl : i = m := by omega
          exact HON.out.2 rfl
      have hsx : x ≤ x2 ∧ (x2 = x ∨ x2 = m) ∧ (x < m → x2 = m) ∧ (¬ x < m → x2 = x ∧ y2 = y) := by
        have e := hxy.out
        by_cases g : x < m
        · rw [if_pos g] at e
          have e1 : x2 = m := congrArg Prod.fst e
          exact ⟨by omega, Or.inr e1, fun _ => e1, fun k => absurd g k⟩
        · rw [if_neg g] at e
          have e1 : x2 = x := congrArg Prod.fst e
          exact ⟨by omega, Or.inl e1, fun k => absurd k g, fun _ => ⟨e1, congrArg Prod.snd e⟩⟩
      clear hxy hon HON
      by_cases hxm2 : x2 ≤ m
      focus
        have hgI : (x2 : Int) ≤ (m : Int) := by omega
        have hxy2 : Hid ((m + 1, a - q) = if x < m + 1 then (m + 1, a - q) else (x, y)) := by
          show _ = _
          rw [if_pos (by omega)]
        by_cases hfull : m + 1 = most
        focus
          have hfD : ((m : Int) + 1 == (most : Int)) = true := by simp; omega
          have hfI : (m : Int) + 1 = (most : Int) := by omega
          have hRm : R = most := by
            have h1 := HRGE.out most hm60 (by rw [← hfull]; exact hnew.out)
            have h2 := HMOST.out
            omega
          have hbest : Sq.best (byts s) a = (most, a - q) := by
            have hb1 : Sq.bestK (byts s) a (a - q) = (most, a - q) := by
              rw [HB.out, hRm, if_pos ⟨hm4, hxm⟩]
            unfold Sq.best
            rw [Sq.bestK_same (d := a - q) (min 200 a) (by omega) (fun k _ _ => Or.inr (by
              rw [hb1]
              have h1 := HRL.out k
              have h2 := HMOST.out
              show Sq.run (byts s) a k ≤ most
              omega)), hb1]
          have HE := Lib.hid hbest
          clear hbest hRm hfull HB HRUN HRGE hnew hsx hxy2 hlow2 hhigh2
          go_wp2
          go_quiet (fail)
          go_wp2
          go_quiet (fail)
          go_wp2
          try rw [Exit.noGoto_ret]
          go_ret2
          exact ⟨ret_pair (by rw [HE.out]) (by rw [HE.out]; omega), below_drewN HBW.out _⟩
        have hfD : ((m : Int) + 1 == (most : Int)) = false := by simp; omega
        have hfI : ¬ (m : Int) + 1 = (most : Int) := by omega
        clear HB HRUN HRGE hsx hlow2 hhigh2
        go_wp2
        go_quiet (fail)
        go_wp2
        go_quiet (fail)
        go_wp2
        go_roundw
        case rel => exact ⟨m + 1, m + 1, a - q, _, by go_num, by go_num, by go_num, by omega, by omega, hxy2, hnew, rfl⟩
        case measure => simp [intOf]; omega
      have hgI : ¬ (x2 : Int) ≤ (m : Int) := by omega
      have hfD : ((x2 : Int) == (most : Int)) = false := by simp; omega
      have hfI : ¬ (x2 : Int) = (most : Int) := by omega
      have hxy2 : Hid ((x2, y2) = if x < m + 1 then (m + 1, a - q) else (x, y)) := by
        show _ = _
        have hnx : ¬ x < m + 1 := by omega
        obtain ⟨e1, e2⟩ := hsx.2.2.2 (by omega)
        rw [if_neg hnx, e1, e2]
      clear HB HRUN HRGE hsx hlow2 hhigh2
      go_wp2
      go_quiet (fail)
      go_wp2
      go_roundw
      case rel => exact ⟨m + 1, x2, y2, _, by go_num, rfl, rfl, by omega, hx2m, hxy2, hnew, rfl⟩
      case measure => simp [intOf]; omega
end Go.Proofs.Ytgcpdifggjkdhab
