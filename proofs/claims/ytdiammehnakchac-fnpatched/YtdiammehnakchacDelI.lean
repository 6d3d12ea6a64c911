/- CONTRACTS: the program's withText, firstBlocks (a map from each whole block to its first number), Delta. -/
import Derived.Test.YtdiammehnakchacBlkI
import Derived.Test.YtdiammehnakchacBitA
import Derived.Test.YtdiammehnakchacDig
import Derived.Maps.OwnSet
import Derived.StringKeys
import Derived.WalkMore
namespace Go.Proofs.Ytdiammehnakchac
open Go.RowKit
open Go.Maps
set_option linter.unusedVariables false
theorem empty9b {x : ByteArray} (h : x.size = 0) : x = ⟨#[]⟩ := by
  apply ByteArray.ext
  exact Array.eq_empty_of_size_eq_zero h
theorem full9b {x : ByteArray} (h : x.size ≠ 0) : (x.toList == []) = false := by
  have hne : ¬ x.toList = [] := fun e => h (by rw [same_of (a := x) (b := ⟨#[]⟩) (by rw [e]; simp)]; rfl)
  simp [hne]
set_option maxHeartbeats 2000000 in
set_option maxRecDepth 100000 in
theorem withText_any (B : Nat) (v : Value) (out : List Bl) (t : ByteArray) (w : World) (ho : w.ownsRow B 54 2 v out.length (blC out)) (hB : B ≤ w.heap.size) (hl : out.length ≤ 524288) (ht : t.size ≤ 1048576) :
    Calls Try.prog 27 #[v, .string t] w fun e w' => ∃ v', e = .returned v' ∧ w'.ownsRow B 54 2 v' (withT out t).length (blC (withT out t)) ∧ Below B w w' := by
  by_cases h0 : t.size = 0
  · have e : withT out t = out := by unfold withT; rw [if_pos h0]
    rw [e]
    obtain rfl := empty9b h0
    clear e h0
    go_enter Try.func27, Try.ntmps27
    go_wp2
    go_ret
    exact ⟨_, rfl, ho, Below.refl _ _⟩
  · have e : withT out t = out ++ [(-1, t)] := by unfold withT; rw [if_neg h0]
    rw [e]
    have hfx := full9b h0
    clear e h0
    go_enter Try.func27, Try.ntmps27
    go_wp2_with fail
    refine (clone_any t _ (by omega)).mono ?_
    rintro e w1 ⟨rfl, hb1⟩
    have ho1 := owns_below ho hb1
    have hB1 := (hb1.mono hB)
    have hs1 := hb1.size
    have hr1 := rdB_one w1 (-1, t) 54
    have hoa := ho1.alloc (.cells #[.int .i64 (-1), .string t] 54)
    have hba : Below B w (w1.alloc (.cells #[.int .i64 (-1), .string t] 54)) := hB1.alloc (by omega) _
    clear ho hb1 ho1 hB1
    go_wp2_with (at_builtin; refine wpList_append_bits rfl _ _ rfl B v out [(-1, t)] _ rfl rfl hoa hr1 (by simp; omega) (by rw [World.size_alloc]; omega) ?_)
    intro v2 w2 ho2 hg2
    have hb2 : Below B w w2 := hba.grown hg2 (by rw [World.size_alloc]; omega) (fun k hk => (hoa.lt k hk).1)
    have ho3 : w2.ownsRow B 54 2 v2 (out ++ [(-1, t)]).length (blC (out ++ [(-1, t)])) := by rw [List.length_append]; exact ho2
    clear ho2 hg2 hoa hba hr1
    go_wp2
    go_ret
    exact ⟨_, rfl, ho3, hb2⟩
/-- what the map holds of the blocks from k on: of each text the first of them -/
abbrev keyT (t : ByteArray) : Lit := .string t.data.toList
def Fbk (D : DataW Unit) (s : ByteArray) (n k M : Nat) : Prop := ∀ t : ByteArray,
  (has D (keyT t) = true → ∃ j, k ≤ j ∧ j < M ∧ blkT s n j = t ∧ (∀ i, k ≤ i → i < j → blkT s n i ≠ t) ∧ D.atKey (keyT t) (.lit (.int .i64 0)) = .lit (.int .i64 (j : Int))) ∧
  (has D (keyT t) = false → ∀ j, k ≤ j → j < M → blkT s n j ≠ t)
theorem keyL9 {t : ByteArray} : WideAt.IsKeyLit (keyT t) := by first | trivial | simp [WideAt.IsKeyLit]
theorem keyT_ne {a b : ByteArray} (h : a ≠ b) : keyT a ≠ keyT b := fun e => h (by
  injection e with e
  cases a; cases b
  congr 1
  exact Array.ext' e)
theorem fbk_start (s : ByteArray) (n M : Nat) : Fbk (.map []) s n M M := fun t => ⟨fun h => by simp [has] at h, fun _ j h1 h2 => by omega⟩
theorem fbk_put {D : DataW Unit} {s : ByteArray} {n k M : Nat} (hm : IsMap D) (h : Fbk D s n (k + 1) M) (hk : k < M) : Fbk (D.put (keyT (blkT s n k)) (.lit (.int .i64 (k : Int)))) s n k M := fun t => by
  by_cases e : t = blkT s n k
  · subst e
    refine ⟨fun _ => ⟨k, Nat.le_refl _, hk, rfl, fun i h1 h2 => by omega, atKey_put_same hm keyL9 _ _⟩, fun hd => ?_⟩
    rw [has_put_same hm keyL9] at hd
    cases hd
  · have hne := keyT_ne e
    rw [has_put_other hne, atKey_put_other hne]
    refine ⟨fun hd => ?_, fun hd j h1 h2 => ?_⟩
    · obtain ⟨j, j1, j2, j3, j4, j5⟩ := (h t).1 hd
      refine ⟨j, by omega, j2, j3, fun i i1 i2 => ?_, j5⟩
      by_cases e3 : i = k
      · subst e3; exact fun e4 => e e4.symm
      · exact j4 i (by omega) i2
    · by_cases e3 : j = k
      · subst e3; exact fun e4 => e e4.symm
      · exact (h t).2 hd j (by omega) h2
theorem fbk_found {D : DataW Unit} {old fresh : ByteArray} {n p : Nat} (h : Fbk D old n 0 (old.size / n)) (hp : p + n ≤ fresh.size) (hh : has D (keyT (fresh.extract p (p + n))) = true) : ∃ j, foundT old fresh n p = some j ∧ D.atKey (keyT (fresh.extract p (p + n))) (.lit (.int .i64 0)) = .lit (.int .i64 (j : Int)) := by
  obtain ⟨j, _, j2, j3, j4, j5⟩ := (h _).1 hh
  exact ⟨j, found_is hp j2 j3 (fun i hi => j4 i (Nat.zero_le _) hi), j5⟩
theorem fbk_none {D : DataW Unit} {old fresh : ByteArray} {n p : Nat} (h : Fbk D old n 0 (old.size / n)) (hh : has D (keyT (fresh.extract p (p + n))) = false) : foundT old fresh n p = none :=
  found_no fun _ j hj => (h _).2 hh j (Nat.zero_le _) hj
theorem ownsMap_below {P : Program} {k : TypeId} {R : Value → Option (DataW Unit × List MemPlace)} {w w' : World} {b n B : Nat} {D : DataW Unit} (h : w.ownsMap P k R b n D) (hb : Below B w w') (hlt : b < B) : w'.ownsMap P k R b n D := by
  obtain ⟨es, clock, h1, h2⟩ := h
  exact ⟨es, clock, (hb.block b hlt).trans h1, h2⟩
theorem cell_same {w w' : World} {b : Nat} (h : w'.heap[b]? = w.heap[b]?) (j : Nat) : w'.cell? ⟨b, j, none⟩ = w.cell? ⟨b, j, none⟩ := by
  unfold World.cell?
  simp only [h]
theorem lawKS : Keyed Try.prog 9 := string_keyed Try.underlying9
theorem zeroK (w : World) : (zeroValue 2).run Try.prog w = .ok (.int .i64 0) w := by kernel_rfl
theorem tel_grown {s : ByteArray} {n b : Nat} {w w' : World} {row : Option Nat} (h : Tel s n b w) (hg : w.grownBy w' row) (h0 : some b ≠ row) (h1 : some (b + 1) ≠ row) (h2 : some (b + 2) ≠ row) : Tel s n b w' := by
  obtain ⟨e0, e1, e2, e3⟩ := h
  have z := hg.size
  exact ⟨by omega, (cell_same (hg.block b (by omega) h0) 0).trans e1, (cell_same (hg.block (b + 1) (by omega) h1) 0).trans e2, (cell_same (hg.block (b + 2) (by omega) h2) 0).trans e3⟩
/-- what firstBlocks answers: the map at the first free block -/
def FbEnd (s : ByteArray) (n M : Nat) (w : World) (e : Ending) (w' : World) : Prop := ∃ (D : DataW Unit) (c : Nat), e = .returned (.map (some w.heap.size)) ∧ w'.ownsMap Try.prog 9 (plainElem Try.prog 2) w.heap.size c D ∧ Fbk D s n 0 M ∧ Below w.heap.size w w'
set_option maxHeartbeats 2000000 in
set_option maxRecDepth 100000 in
theorem firstBlocks_any (s : ByteArray) (n : Nat) (w : World) (hn1 : 1 ≤ n) (hn2 : n ≤ 100) (hs : s.size ≤ 20000) :
    Calls Try.prog 26 #[.string s, .int .i64 (n : Int)] w (FbEnd s n (s.size / n) w) := by
  have hmm := @run_makeMap Try.prog
  have hmap0 : (w.alloc (.map #[] 0)).ownsMap Try.prog 9 (plainElem (H := Unit) Try.prog 2) w.heap.size 0 (.map []) := World.ownsMap_made _ _ _ _
  have hb0 : Below w.heap.size w (w.alloc (.map #[] 0)) := (Below.refl _ _).alloc (Nat.le_refl _) _
  have hz0 : (w.alloc (.map #[] 0)).heap.size = w.heap.size + 1 := World.size_alloc _ _
  have hbo := blocksOf_any s n (w.alloc (.map #[] 0))
  rw [hz0] at hbo
  have hq : (s.size : Int) / (n : Int) = ((s.size / n : Nat) : Int) := (Int.natCast_ediv _ _).symm
  have hMN : s.size / n ≤ blkN s n := by
    rcases Nat.lt_or_ge (blkN s n) (s.size / n) with h | h
    · have h1 := (Nat.lt_div_iff_mul_lt hn1).1 h
      have h2 : ¬ blkN s n < blkN s n := Nat.lt_irrefl _
      rw [blkN_lt hn1] at h2
      have e : n * blkN s n = blkN s n * n := Nat.mul_comm _ _
      omega
    · exact h
  have hN : blkN s n ≤ 20000 := Nat.le_trans (blkN_le hn1) hs
  have HT : Hid (∀ k, k < s.size / n → telT s n (k : Int) = some (blkT s n k)) := fun k h => telT_at (Nat.lt_of_lt_of_le h hMN)
  have HTL := Lib.hid (fun (d : Int) (W : World) (h : Tel s n (w.heap.size + 1) W) => teller_any s n (w.heap.size + 1) d W h hn1 hn2 hs)
  have HZ : Hid (∀ k, (blkT s n k).size ≤ 100) := fun k => Nat.le_trans (blkT_le s n k) hn2
  have HPUT : Hid (∀ (D : DataW Unit) k, IsMap D → Fbk D s n (k + 1) (s.size / n) → k < s.size / n → Fbk (D.put (keyT (blkT s n k)) (.lit (.int .i64 (k : Int)))) s n k (s.size / n)) := fun D k h1 h2 h3 => fbk_put h1 h2 h3
  have HST : Hid (Fbk (.map []) s n (s.size / n) (s.size / n)) := fbk_start _ _ _
  generalize s.size / n = M at hq hMN HT HPUT HST ⊢
  have hM : M ≤ 20000 := by omega
  have hn0 : (n : Int) ≠ 0 := by omega
  clear hMN hN
  go_enter Try.func26, Try.ntmps26
  go_wp2_with fail
  refine hbo.mono ?_
  rintro e w1 ⟨rfl, htel, hb1⟩
  have hown1 := ownsMap_below hmap0 hb1 (by omega)
  have hB1 := hb0.trans (hb1.mono (by omega))
  clear hbo hmap0 hb0 hb1
  go_wp2
  go_loopw [7] (fun i wr => ∃ (z : Int) (k c : Nat) (D : DataW Unit), i = .int .i64 z ∧ z = (k : Int) - 1 ∧ k ≤ M ∧ c + k ≤ M ∧ wr.ownsMap Try.prog 9 (plainElem Try.prog 2) w.heap.size c D ∧ Hid (Fbk D s n k M) ∧ Hid (Tel s n (w.heap.size + 1) wr) ∧ Below w.heap.size w wr) (fun i _ => (intOf i + 1).toNat)
  case atStart => exact ⟨_, M, 0, .map [], rfl, rfl, Nat.le_refl _, by omega, hown1, HST, htel, hB1⟩
  case round =>
    rename World => wr
    obtain ⟨z, k, c, D, rfl, hzk, hk, hc, hown, hF, hte, hb⟩ := hrel
    clear hown1 htel hB1
    by_cases hk0 : k = 0
    · subst hk0
      have hz1 : ¬ 0 ≤ z := by omega
      go_wp2
      go_ret
      exact ⟨D, c, rfl, hown, hF.out, hb⟩
    · obtain ⟨j, rfl⟩ : ∃ j, k = j + 1 := ⟨k - 1, by omega⟩
      have hzj : z = (j : Int) := by omega
      subst hzj
      have hcall := HTL.out (j : Int) wr hte.out
      rw [HT.out j (by omega)] at hcall
      have hz := HZ.out j
      have hF2 := Lib.hid (HPUT.out D j hown.isMap hF.out (by omega))
      have hkey : keyOf Try.prog 9 (.string (blkT s n j)) = some (keyT (blkT s n j)) := WideMaps.keyOf_string_mk Try.underlying9 (by unfold maxLen; omega)
      have hW : (Lit.int .i64 (j : Int)).wf = true := WalkArith.wf_i64 (by omega)
      obtain ⟨x, hx⟩ : ∃ x, x = blkT s n j := ⟨_, rfl⟩
      rw [← hx] at hcall hz hF2 hkey
      clear hx hF hzk
      go_wp2_with fail
      refine hcall.mono ?_
      rintro e w2 ⟨rfl, rfl⟩
      clear hcall
      go_wp2_with (first
        | (at_mapUpdate; refine wpList_mapUpdate_own _ rfl _ _ _ 49 rfl 9 2 lawKS Try.underlying49 _ _ c _ rfl hown (by unfold maxLen; omega) _ _ _ rfl rfl hkey _ [] (plainElem_int Try.underlying2 hW) ?_; intro w3 hown3 hgrow3)
        | go_in)
      have hb3 := hb.grown hgrow3 hb.size (fun j hj => by cases hj; exact Nat.le_refl _)
      have HTE3 := Lib.hid (tel_grown hte.out hgrow3 (fun e => by have := Option.some.inj e; omega) (fun e => by have := Option.some.inj e; omega) (fun e => by have := Option.some.inj e; omega))
      clear hown hte hb hgrow3
      go_wp2
      go_roundw
      case rel => exact ⟨_, j, c + 1, _, rfl, rfl, by omega, by omega, hown3, hF2, HTE3, hb3⟩
      case measure => simp [intOf] <;> omega
set_option maxHeartbeats 8000000 in
set_option maxRecDepth 100000 in
theorem implDelta_any (old fresh : ByteArray) (n : Int) (w : World) :
    Calls Try.prog 6 #[.string old, .string fresh, .int .i64 n] w fun e w' => ∃ v, e = .returned v ∧ w'.ownsRow w.heap.size 54 2 v (deltaT old fresh n).length (blC (deltaT old fresh n)) ∧ Below w.heap.size w w' := by
  have hhb := hasBlocks_any old n w
  have hnil : w.ownsRow w.heap.size 54 2 (.slice none 0 0) 0 (blC []) := ⟨rfl, Or.inl ⟨rfl, rfl⟩⟩
  by_cases hok : okN9 n ∧ old.size ≤ 20000
  rotate_left
  · rw [decide_eq_false hok] at hhb
    have e : deltaT old fresh n = [] := by unfold deltaT; rw [if_neg (fun h => hok ⟨h.1, h.2.1⟩)]
    rw [e]
    clear e hok
    go_enter Try.func6, Try.ntmps6
    go_wp2_with fail
    go_step3
    go_wp2_with fail
    refine hhb.mono ?_
    rintro e w2 ⟨rfl, rfl⟩
    go_wp2
    try rw [Exit.noGoto_ret]
    go_ret
    exact ⟨_, rfl, hnil, Below.refl _ _⟩
  rw [decide_eq_true hok] at hhb
  by_cases hfs : fresh.size ≤ 20000
  rotate_left
  · have e : deltaT old fresh n = [] := by unfold deltaT; rw [if_neg (fun h => hfs h.2.2)]
    rw [e]
    have hfI : (20000 : Int) < (fresh.size : Int) := by omega
    clear e hok hfs
    go_enter Try.func6, Try.ntmps6
    go_wp2_with fail
    go_step3
    go_wp2_with fail
    refine hhb.mono ?_
    rintro e w2 ⟨rfl, rfl⟩
    go_wp2
    try rw [Exit.noGoto_ret]
    go_ret
    exact ⟨_, rfl, hnil, Below.refl _ _⟩
  have e : deltaT old fresh n = dG old fresh n.toNat 0 0 [] := by unfold deltaT; rw [if_pos ⟨hok.1, hok.2, hfs⟩]
  rw [e]
  obtain ⟨m, rfl⟩ : ∃ m : Nat, n = m := ⟨n.toNat, by have := hok.1.1; omega⟩
  rw [Int.toNat_natCast]
  have hn1 : 1 ≤ m := by have := hok.1.1; omega
  have hn2 : m ≤ 100 := by have := hok.1.2; omega
  have hfI : ¬ (20000 : Int) < (fresh.size : Int) := by omega
  have hfb := firstBlocks_any old m w hn1 hn2 hok.2
  have HEND : Hid (∀ fr p out, ¬ p + m ≤ fresh.size → dG old fresh m fr p out = withT out (fresh.extract fr fresh.size)) := fun fr p out h => dG_end h
  have HHIT : Hid (∀ fr p k out, foundT old fresh m p = some k → dG old fresh m fr p out = dG old fresh m (p + m) (p + m) (withT out (fresh.extract fr p) ++ [blkB k])) := fun fr p k out h => dG_hit (by omega) h
  have HMISS : Hid (∀ fr p out, p + m ≤ fresh.size → foundT old fresh m p = none → dG old fresh m fr p out = dG old fresh m fr (p + 1) out) := fun fr p out h1 h => dG_miss (by omega) h1 h
  have HFS : Hid (∀ (D : DataW Unit) p, Fbk D old m 0 (old.size / m) → p + m ≤ fresh.size → has D (keyT (fresh.extract p (p + m))) = true → ∃ j, foundT old fresh m p = some j ∧ D.atKey (keyT (fresh.extract p (p + m))) (.lit (.int .i64 0)) = .lit (.int .i64 (j : Int))) := fun D p h hp hh => fbk_found h hp hh
  have HFN : Hid (∀ (D : DataW Unit) p, Fbk D old m 0 (old.size / m) → has D (keyT (fresh.extract p (p + m))) = false → foundT old fresh m p = none) := fun D p h hh => fbk_none h hh
  have HWL : Hid (∀ (out : List Bl) (t : ByteArray), (withT out t).length ≤ out.length + 1) := fun out t => by
    unfold withT
    split
    · omega
    · rw [List.length_append, List.length_singleton]; omega
  have HR0 : Hid (dG old fresh m 0 0 [] = dG old fresh m 0 0 []) := rfl
  generalize hRR : dG old fresh m 0 0 [] = R at HR0 ⊢
  have HR : Hid (dG old fresh m 0 0 [] = R) := hRR
  generalize hDG : dG old fresh m = DG at HEND HHIT HMISS HR
  generalize hFT : foundT old fresh m = FT at HHIT HMISS HFS HFN
  clear hRR hDG hFT e hok HR0 hnil
  go_enter Try.func6, Try.ntmps6
  go_wp2_with fail
  go_step3
  go_wp2_with fail
  refine hhb.mono ?_
  rintro e w2 ⟨rfl, rfl⟩
  clear hhb
  go_wp2_with fail
  refine hfb.mono ?_
  rintro e w1 ⟨D, c, rfl, hmap, hF, hb1⟩
  have HF1 : Hid (∀ p, p + m ≤ fresh.size → has D (keyT (fresh.extract p (p + m))) = true → ∃ j, FT p = some j ∧ D.atKey (keyT (fresh.extract p (p + m))) (.lit (.int .i64 0)) = .lit (.int .i64 (j : Int))) := fun p hp hh => HFS.out D p hF hp hh
  have HF2 : Hid (∀ p, has D (keyT (fresh.extract p (p + m))) = false → FT p = none) := fun p hh => HFN.out D p hF hh
  have HBW := Lib.hid hb1
  have hs1 := hb1.size
  have hmlt := hmap.lt
  have HMAP := Lib.hid hmap
  have ho0 : w1.ownsRow w1.heap.size 54 2 (.slice none 0 0) ([] : List Bl).length (blC []) := ⟨rfl, Or.inl ⟨rfl, rfl⟩⟩
  have hbb := Below.refl w1.heap.size w1
  clear hfb hF hb1 HFS HFN hmap
  go_wp2
  go_step3
  go_wp2
  go_loopg [7, 10] fresh.size (fun f v q wr => ∃ (fr : Nat) (out : List Bl), q = .int .i64 (fr : Int) ∧ fr + f = fresh.size ∧ out.length ≤ 2 * fr ∧ Hid (DG fr fr out = R) ∧ wr.ownsRow w1.heap.size 54 2 v out.length (blC out) ∧ Below w1.heap.size w1 wr)
  case atStart => exact ⟨0, [], rfl, by omega, Nat.zero_le _, HR.out, ho0, hbb⟩
  case round =>
    rename World => wr
    obtain ⟨fr, out, rfl, hfr, hol, hR, ho, hb⟩ := hrel
    clear ho0 hbb
    have hsb := hb.size
    go_wp2
    go_loopg [7, 10, 11] (fresh.size + 1 - fr) (fun f vv q v wq => ∃ p : Nat, q = .int .i64 (fr : Int) ∧ v = .int .i64 (p : Int) ∧ fr ≤ p ∧ p ≤ fresh.size ∧ p + f = fresh.size + 1 ∧ Hid (DG fr p out = R) ∧ wq.ownsRow w1.heap.size 54 2 vv out.length (blC out) ∧ Below w1.heap.size w1 wq)
    case atStart => exact ⟨fr, rfl, rfl, Nat.le_refl _, by omega, by omega, hR, ho, hb⟩
    case round =>
      rename World => wq
      clear ho hb hsb
      obtain ⟨p, rfl, rfl, hfp, hps, hpf, hRp, ho, hb⟩ := hrel
      have hsb := hb.size
      clear hR
      by_cases hlt : p + m ≤ fresh.size
      · have hltI : (p : Int) + (m : Int) ≤ (fresh.size : Int) := by omega
        have hsl : ∀ W' : World, (Instr.slice 9 (.string fresh) (some (.int .i64 (p : Int))) (some (.int .i64 ((p : Int) + (m : Int)))) none).run Try.prog W' = .ok (.string (fresh.extract p (p + m))) W' := fun W' => by
          rw [run_slice_string _ 9 fresh .i64 .i64 _ _ Try.underlying9 (by omega) (by omega) (by omega)]
          rw [show ((p : Int) + (m : Int)).toNat = p + m by omega, Int.toNat_natCast]
        have hsl2 : ∀ W' : World, (Instr.slice 9 (.string fresh) (some (.int .i64 (fr : Int))) (some (.int .i64 (p : Int))) none).run Try.prog W' = .ok (.string (fresh.extract fr p)) W' := fun W' => by
          rw [run_slice_string _ 9 fresh .i64 .i64 _ _ Try.underlying9 (by omega) (by omega) (by omega)]
          rw [Int.toNat_natCast, Int.toNat_natCast]
        have hxs : (fresh.extract p (p + m)).size ≤ 20000 := by rw [ByteArray.size_extract]; omega
        have hkey : keyOf Try.prog 9 (.string (fresh.extract p (p + m))) = some (keyT (fresh.extract p (p + m))) := WideMaps.keyOf_string_mk Try.underlying9 (by unfold maxLen; omega)
        have hown := ownsMap_below HMAP.out hb hmlt
        have hf1 := HF1.out p hlt
        have hf2 := HF2.out p
        have hys : (fresh.extract fr p).size ≤ 20000 := by rw [ByteArray.size_extract]; omega
        have HWL2 := HWL.out out (fresh.extract fr p)
        have HH2 : Hid (∀ k, FT p = some k → DG (p + m) (p + m) (withT out (fresh.extract fr p) ++ [blkB k]) = R) := fun k hk => by rw [← HHIT.out fr p k out hk]; exact hRp.out
        have HM2 : Hid (FT p = none → DG fr (p + 1) out = R) := fun hk => by rw [← HMISS.out fr p out hlt hk]; exact hRp.out
        obtain ⟨x, hx⟩ : ∃ x, x = fresh.extract p (p + m) := ⟨_, rfl⟩
        rw [← hx] at hsl hxs hkey hf1 hf2
        obtain ⟨y, hy⟩ : ∃ y, y = fresh.extract fr p := ⟨_, rfl⟩
        rw [← hy] at hsl2 hys HWL2 HH2
        clear hx hy hRp HF1 HF2 HMAP
        cases hh : has D (keyT x) with
        | false =>
          have HMM := Lib.hid (HM2.out (hf2 hh))
          clear hf1 hf2 HM2 HH2 hsl2
          go_wp2_with (first
            | (at_lookup; refine wpList_lookup_own_ok_int _ rfl _ _ 49 rfl 9 2 .i64 lawKS Try.underlying49 Try.underlying2 (zeroK _) _ c D rfl hown _ _ rfl hkey ?_; intro q hat hwq; rw [hh])
            | go_in)
          go_roundg (gk - 1)
          case rel => exact ⟨p + 1, rfl, by go_num, by omega, by omega, by omega, HMM, ho, hb⟩
          case measure => omega
        | true =>
          obtain ⟨j, hj1, hat0⟩ := hf1 hh
          have HHH := Lib.hid (HH2.out j hj1)
          clear hf1 hf2 HM2 HH2 hj1
          go_wp2_with (at_lookup; refine wpList_lookup_own_ok_int _ rfl _ _ 49 rfl 9 2 .i64 lawKS Try.underlying49 Try.underlying2 (zeroK _) _ c D rfl hown _ _ rfl hkey ?_; intro q hat hwq; rw [hh]; obtain rfl : q = (j : Int) := by (have h := hat.symm.trans hat0; simpa using h))
          clear hat hwq hat0 hkey hown hsl
          refine (withText_any w1.heap.size _ out y wq ho hsb (by omega) (by omega)).mono ?_
          rintro e w4 ⟨v4, rfl, ho4, hb4⟩
          have hB4 := hb.trans hb4
          have hs4 := hB4.size
          have hr4 := rdB_one w4 (blkB j) 54
          have hoa := ho4.alloc (.cells #[.int .i64 (j : Int), .string ⟨#[]⟩] 54)
          have hba : Below w1.heap.size w1 (w4.alloc (.cells #[.int .i64 (j : Int), .string ⟨#[]⟩] 54)) := hB4.alloc (by omega) _
          generalize withT out y = out2 at HWL2 HHH ho4 hoa
          clear ho hb hb4 hB4 hsl2 ho4
          go_wp2_with (at_builtin; refine wpList_append_bits rfl _ _ rfl w1.heap.size v4 out2 [blkB j] _ rfl rfl hoa hr4 (by rw [List.length_singleton]; omega) (by rw [World.size_alloc]; omega) ?_)
          intro v5 w5 ho5 hg5
          have hb5 : Below w1.heap.size w1 w5 := hba.grown hg5 (by rw [World.size_alloc]; omega) (fun k hk => (hoa.lt k hk).1)
          have ho6 : Hid (w5.ownsRow w1.heap.size 54 2 v5 (out2 ++ [blkB j]).length (blC (out2 ++ [blkB j]))) := by show World.ownsRow _ _ _ _ _ _ _; rw [List.length_append]; exact ho5
          have hl6 : (out2 ++ [blkB j]).length ≤ 2 * (p + m) := by rw [List.length_append, List.length_singleton]; omega
          clear ho5 hg5 hoa hba hr4
          go_wp2
          go_roundg (fresh.size - (p + m))
          case rel => exact ⟨p + m, out2 ++ [blkB j], by go_num, by omega, hl6, HHH, ho6.out, hb5⟩
          case measure => omega
      · have hltI : ¬ (p : Int) + (m : Int) ≤ (fresh.size : Int) := by omega
        have hsl : ∀ W' : World, (Instr.slice 9 (.string fresh) (some (.int .i64 (fr : Int))) none none).run Try.prog W' = .ok (.string (fresh.extract fr fresh.size)) W' := fun W' => by
          rw [run_slice_string_l W' 9 fresh Try.underlying9 .i64 _ (by omega) (by omega), Int.toNat_natCast]
        have hys : (fresh.extract fr fresh.size).size ≤ 20000 := by rw [ByteArray.size_extract]; omega
        have HE : Hid (withT out (fresh.extract fr fresh.size) = R) := by show _ = _; rw [← HEND.out fr p out hlt]; exact hRp.out
        obtain ⟨y, hy⟩ : ∃ y, y = fresh.extract fr fresh.size := ⟨_, rfl⟩
        rw [← hy] at hsl hys HE
        clear hy hRp HF1 HF2 HMAP hlt
        go_wp2_with fail
        refine (withText_any w1.heap.size _ out y wq ho hsb (by omega) (by omega)).mono ?_
        rintro e w4 ⟨v4, rfl, ho4, hb4⟩
        rw [HE.out] at ho4
        have HO := Lib.hid (owns_base ho4 hs1)
        have HB := Lib.hid (HBW.out.trans ((hb.trans hb4).mono hs1))
        clear ho hb hb4 ho4 HE hsl
        go_wp2
        try rw [Exit.noGoto_ret]
        go_ret
        exact ⟨_, rfl, HO.out, HB.out⟩
end Go.Proofs.Ytdiammehnakchac
