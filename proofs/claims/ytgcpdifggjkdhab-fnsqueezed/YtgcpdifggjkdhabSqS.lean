/- CONTRACTS: the specification's l6Find, l6Squeezed, Squeezed, Gain. -/
import Derived.Test.YtgcpdifggjkdhabSqMath
import Derived.Test.YtgcpdifggjkdhabDig
import Derived.Lib.Hide
namespace Go.Proofs.Ytgcpdifggjkdhab
open Go.RowKit
set_option linter.unusedVariables false
theorem str_atI (s : ByteArray) (k : Nat) (x : Int) (hx : x = (k : Int)) (hk : k < s.size) : ∀ W : World, (Instr.index 9 (.string s) (.int .i64 x)).run Try.prog W = .ok (.int .u8 ((byts s).getD k 0)) W := by
  rw [hx]
  exact str_at s k hk
theorem row_cells (w : World) (k : IntKind) (zs : List Int) (t : TypeId) : ∀ j u, (zs.map (Value.int k))[j]? = some u → (w.alloc (.cells (zs.map (Value.int k)).toArray t)).cell? ((⟨w.heap.size, 0, none⟩ : Addr).add j) = some u := by
  intro j u hj
  have e : (⟨w.heap.size, 0, none⟩ : Addr).add j = ⟨w.heap.size, 0 + j, none⟩ := Addr.add_lit ..
  rw [e, Nat.zero_add, World.cell?_alloc_at _ _ _ _ rfl]
  simpa using hj
theorem bestK_at {L : List Int} {a d x y : Nat} (hd : 1 ≤ d) (h : Sq.bestK L a (d - 1) = (x, y)) : Sq.bestK L a d = if 4 ≤ Sq.run L a d ∧ x < Sq.run L a d then (Sq.run L a d, d) else (x, y) := by
  obtain ⟨e, rfl⟩ : ∃ e, d = e + 1 := ⟨d - 1, by omega⟩
  rw [Nat.add_sub_cancel] at h
  rw [Sq.bestK, h]
theorem slice_of {w : World} {b : Nat} {e : TypeId} {v : Value} {n : Nat} {xs : List Value} (h : w.ownsRow b e 1 v n xs) : ∃ ao cap, v = .slice ao n cap := by
  rcases h.2 with ⟨hv, h0⟩ | ⟨g, cap, cur, hv, _⟩
  · exact ⟨none, 0, by rw [hv, h0]⟩
  · exact ⟨_, _, hv⟩
theorem ret_pair {a b c d : Int} (h1 : a = c) (h2 : b = d) : Ending.returned (.tuple #[.int .i64 a, .int .i64 b]) = .returned (.tuple #[.int .i64 c, .int .i64 d]) := by rw [h1, h2]
theorem ret_str {a b : ByteArray} (h : a = b) : Ending.returned (.string a) = .returned (.string b) := by rw [h]
/-- what Squeezed tells -/
def sqT (s : ByteArray) : ByteArray := if 20000 < s.size then ⟨#[]⟩ else asB (Sq.sq (byts s) 0)
/-- what Gain tells -/
def gainT (s : ByteArray) : Int := (s.size : Int) - ((sqT s).size : Int)
theorem byts_ok (s : ByteArray) : ∀ x ∈ byts s, 0 ≤ x ∧ x ≤ 255 := fun x hx => by
  obtain ⟨i, hi, rfl⟩ := List.getElem_of_mem hx
  have := byts_range s i
  have e : (byts s).getD i 0 = (byts s)[i] := by simp [List.getD, hi]
  omega
theorem sq_short (s : ByteArray) (h : s.size ≤ 20000) : (Sq.sq (byts s) 0).length ≤ 40000 := by
  have h1 := Sq.sq_len (L := byts s) 0 (Nat.zero_le _)
  have h2 := Sq.ones_le (byts s) (byts s).length
  rw [byts_len] at h1 h2
  omega
theorem sqT_size (s : ByteArray) : (sqT s).size ≤ 40000 := by
  unfold sqT
  split
  · show 0 ≤ _; omega
  · rw [asB_size]
    exact sq_short s (by omega)

set_option maxHeartbeats 2000000 in
set_option maxRecDepth 100000 in
theorem specFind_any (s : ByteArray) (a : Nat) (w : World) (ha : a < s.size) (hs : s.size ≤ 20000) :
    Calls Try.prog 106 #[.string s, .int .i64 (a : Int)] w fun e w' => e = .returned (.tuple #[.int .i64 (((Sq.best (byts s) a).1 : Nat) : Int), .int .i64 (((Sq.best (byts s) a).2 : Nat) : Int)]) ∧ ∃ q, w' = w.drewN q := by
  have HBL : Hid ((byts s).length = s.size) := byts_len s
  have HBK : Hid (∀ d x y, 1 ≤ d → Sq.bestK (byts s) a (d - 1) = (x, y) → Sq.bestK (byts s) a d = if 4 ≤ Sq.run (byts s) a d ∧ x < Sq.run (byts s) a d then (Sq.run (byts s) a d, d) else (x, y)) := fun d x y h1 h2 => bestK_at h1 h2
  have HRUN : Hid (∀ d n, n ≤ 60 → (∀ i, i < n → Sq.On (byts s) (a - d) a i) → (n = 60 ∨ ¬ Sq.On (byts s) (a - d) a n) → Sq.run (byts s) a d = n) := fun d n h1 h2 h3 => Sq.runK_is h1 h2 h3
  have HBEST : Hid (∀ x y, Sq.bestK (byts s) a (min 200 a) = (x, y) → Sq.best (byts s) a = (x, y)) := fun x y h => h
  go_enter Try.func106, Try.ntmps106
  go_wp2
  go_loopw [6, 7, 8] (fun p q i wr => ∃ (d x y r : Nat), i = .int .i64 d ∧ p = .int .i64 x ∧ q = .int .i64 y ∧ 1 ≤ d ∧ d ≤ 201 ∧ d ≤ a + 1 ∧ Hid (Sq.bestK (byts s) a (d - 1) = (x, y)) ∧ x ≤ 60 ∧ wr = w.drewN r) (fun _ _ i _ => 201 - (intOf i).toNat)
  case atStart => exact ⟨1, 0, 0, 0, rfl, rfl, rfl, by omega, by omega, by omega, rfl, by omega, rfl⟩
  case round =>
    obtain ⟨d, x, y, r, rfl, rfl, rfl, hd1, hd2, hd3, hbk, hx60, rfl⟩ := hrel
    by_cases h2 : d ≤ 200
    focus
      by_cases h3 : d ≤ a
      focus
        have h2I : (d : Int) ≤ 200 := by omega
        have h3I : (d : Int) ≤ (a : Int) := by omega
        have h2D : decide ((d : Int) ≤ 200) = true := decide_eq_true h2I
        have h3D : decide ((d : Int) ≤ (a : Int)) = true := decide_eq_true h3I
        go_wp2
        go_loopw [9] (fun i wr => ∃ (n r : Nat), i = .int .i64 n ∧ n ≤ 60 ∧ a + n ≤ s.size ∧ Hid (∀ i, i < n → Sq.On (byts s) (a - d) a i) ∧ wr = w.drewN r) (fun i _ => 60 - (intOf i).toNat)
        case atStart => exact ⟨0, _, rfl, by omega, by omega, fun i h => by omega, rfl⟩
        case round =>
          obtain ⟨n, r2, rfl, hn60, hnl, hon, rfl⟩ := hrel
          have HR := HRUN.out d n hn60 hon.out
          have hend : Hid ((n = 60 ∨ ¬ Sq.On (byts s) (a - d) a n) → Sq.run (byts s) a d = n) := HR
          clear HR
          by_cases hlt : n < 60
          focus
            have hlD : decide ((n : Int) < 60) = true := decide_eq_true (by omega)
            by_cases hla : a + n < s.size
            focus
              have hlaD : decide ((a : Int) + (n : Int) < (s.size : Int)) = true := decide_eq_true (by omega)
              have hxa := str_atI s (a + n) ((a : Int) + (n : Int)) (by omega) hla
              have hxb := str_atI s (a - d + n) ((a : Int) + (n : Int) - (d : Int)) (by omega) (by omega)
              have hra := byts_range s (a + n)
              have hrb := byts_range s (a - d + n)
              have HON : Hid (Sq.On (byts s) (a - d) a n ↔ (byts s).getD (a - d + n) 0 = (byts s).getD (a + n) 0) := by
                show _ ↔ _
                unfold Sq.On
                rw [HBL.out]
                exact ⟨fun h => h.2, fun h => ⟨hla, h⟩⟩
              obtain ⟨u, hu⟩ : ∃ u, u = (byts s).getD (a + n) 0 := ⟨_, rfl⟩
              obtain ⟨v, hv⟩ : ∃ v, v = (byts s).getD (a - d + n) 0 := ⟨_, rfl⟩
              rw [← hu] at hxa hra HON
              rw [← hv] at hxb hrb HON
              clear hu hv
              by_cases hq : u = v
              focus
                subst hq
                have hnew : Hid (∀ i, i < n + 1 → Sq.On (byts s) (a - d) a i) := fun i hi => by
                  rcases Nat.lt_or_ge i n with h | h
                  · exact hon.out i h
                  · obtain rfl : i = n := by omega
                    exact HON.out.2 rfl
                clear hon HON hend
                go_wp2
                go_quiet (fail)
                go_wp2
                go_roundw
                case rel => exact ⟨n + 1, _, by go_num, by omega, by omega, hnew, rfl⟩
                case measure => simp [intOf]; omega
              have hrun : Hid (Sq.run (byts s) a d = n) := hend.out (Or.inr fun h => hq (HON.out.1 h).symm)
              have hqD : (u == v) = false := by simp [hq]
              clear hon HON hend
              go_wp2
              go_quiet (fail)
            rotate_left
            focus
              have hrun : Hid (Sq.run (byts s) a d = n) := hend.out (Or.inr fun h => hla (by have := h.1; rw [HBL.out] at this; exact this))
              clear hon hend
              go_wp2
              have hlaD2 : decide ((a : Int) + (n : Int) < (s.size : Int)) = false := decide_eq_false (by omega)
              go_quiet (fail)
          rotate_right
          focus
            have hrun : Hid (Sq.run (byts s) a d = n) := hend.out (Or.inl (by omega))
            clear hon hend
            go_wp2
            have hlD : decide ((n : Int) < 60) = false := decide_eq_false (by omega)
            go_quiet (fail)
          all_goals
            have HD := HBK.out d x y hd1 hbk.out
            rw [hrun.out] at HD
            clear hrun hbk
            by_cases h4 : 4 ≤ n ∧ x < n
            focus
              rw [if_pos h4] at HD
              have HD2 : Hid (Sq.bestK (byts s) a (d + 1 - 1) = (n, d)) := HD
              have e1 : decide (4 ≤ (n : Int)) = true := decide_eq_true (by omega)
              have e2 : decide ((x : Int) < (n : Int)) = true := decide_eq_true (by omega)
              have e3 : (4 : Int) ≤ (n : Int) := by omega
              have e4 : (x : Int) < (n : Int) := by omega
              clear HD h4
              go_wp2
              go_roundw
              case rel => exact ⟨d + 1, n, d, _, by go_num, rfl, rfl, by omega, by omega, by omega, HD2, hn60, rfl⟩
              case measure => simp [intOf]; omega
            rw [if_neg h4] at HD
            have HD2 : Hid (Sq.bestK (byts s) a (d + 1 - 1) = (x, y)) := HD
            clear HD
            by_cases h5 : 4 ≤ n
            focus
              have e1 : decide (4 ≤ (n : Int)) = true := decide_eq_true (by omega)
              have e2 : decide ((x : Int) < (n : Int)) = false := decide_eq_false (by omega)
              have e3 : (4 : Int) ≤ (n : Int) := by omega
              have e4 : ¬ (x : Int) < (n : Int) := by omega
              clear h4
              go_wp2
              go_roundw
              case rel => exact ⟨d + 1, x, y, _, by go_num, rfl, rfl, by omega, by omega, by omega, HD2, hx60, rfl⟩
              case measure => simp [intOf]; omega
            have e1 : decide (4 ≤ (n : Int)) = false := decide_eq_false (by omega)
            have e3 : ¬ (4 : Int) ≤ (n : Int) := by omega
            clear h4
            go_wp2
            go_roundw
            case rel => exact ⟨d + 1, x, y, _, by go_num, rfl, rfl, by omega, by omega, by omega, HD2, hx60, rfl⟩
            case measure => simp [intOf]; omega
      have hmin : min 200 a = d - 1 := by omega
      have hE : Sq.best (byts s) a = (x, y) := HBEST.out x y (by rw [hmin]; exact hbk.out)
      have HE := Lib.hid hE
      have e1 : (d : Int) ≤ 200 := by omega
      have e2 : ¬ (d : Int) ≤ (a : Int) := by omega
      clear hmin hE
      go_wp2
      go_ret2
      exact ⟨ret_pair (by rw [HE.out]) (by rw [HE.out]), _, rfl⟩
    have hmin : min 200 a = d - 1 := by omega
    have hE : Sq.best (byts s) a = (x, y) := HBEST.out x y (by rw [hmin]; exact hbk.out)
    have HE := Lib.hid hE
    have e1 : ¬ (d : Int) ≤ 200 := by omega
    clear hmin hE
    go_wp2
    go_ret2
    exact ⟨ret_pair (by rw [HE.out]) (by rw [HE.out]), _, rfl⟩
set_option maxHeartbeats 2000000 in
set_option maxRecDepth 100000 in
theorem l6Sq_any (s : ByteArray) (w : World) (hs : s.size ≤ 20000) :
    Calls Try.prog 87 #[.string s] w fun e w' => e = .returned (.string (asB (Sq.sq (byts s) 0))) ∧ Below w.heap.size w w' := by
  obtain ⟨i0, hi, hz0, hz1, hz2⟩ := info_parts Try.infoB
  have HBL : Hid ((byts s).length = s.size) := byts_len s
  have HBY : Hid (∀ z ∈ Sq.sq (byts s) 0, 0 ≤ z ∧ z ≤ 255) := Sq.sq_bytes (byts_ok s) 0
  have hmade : (w.alloc (.cells #[] 5)).ownsRow w.heap.size 5 1 (.slice (some ⟨w.heap.size, 0, none⟩) 0 0) 0 (cellsByteS []) := World.ownsRow_lit w #[] 0 (Nat.le_refl _) (Nat.zero_le _) rfl
  have hb0 : Hid (Below w.heap.size w (w.alloc (.cells #[] 5))) := (Below.refl _ _).alloc (Nat.le_refl _) _
  go_enter Try.func87, Try.ntmps87
  go_wp2
  go_loopw [3, 4] (fun p i wr => ∃ (k : Nat) (acc : List Int), i = .int .i64 k ∧ k ≤ s.size ∧ wr.ownsRow w.heap.size 5 1 p acc.length (cellsByteS acc) ∧ acc.length ≤ 2 * k ∧ Hid (acc ++ Sq.sq (byts s) k = Sq.sq (byts s) 0) ∧ Hid (Below w.heap.size w wr)) (fun _ i _ => s.size - (intOf i).toNat)
  case atStart => exact ⟨0, [], rfl, Nat.zero_le _, hmade, by simp, rfl, hb0⟩
  case round =>
    rename World => w1
    obtain ⟨k, acc, rfl, hk, ho, hal, hsq, hb⟩ := hrel
    have hs1 := hb.out.size
    clear hmade hb0
    by_cases hlt : k < s.size
    focus
      have hB := Sq.best_in (byts s) k
      have hBl := Sq.best_len (L := byts s) (a := k) (by rw [HBL.out]; omega)
      rw [HBL.out] at hBl
      have HM : Hid (0 < (Sq.best (byts s) k).1 → Sq.sq (byts s) k = [1, ((Sq.best (byts s) k).1 : Int) - 3, ((Sq.best (byts s) k).2 : Int)] ++ Sq.sq (byts s) (k + (Sq.best (byts s) k).1)) := fun h => Sq.sq_more (by rw [HBL.out]; exact hlt) h
      have HO1 : Hid (¬ 0 < (Sq.best (byts s) k).1 → (byts s).getD k 0 = 1 → Sq.sq (byts s) k = [1, 0] ++ Sq.sq (byts s) (k + 1)) := fun h h1 => Sq.sq_one (by rw [HBL.out]; exact hlt) h h1
      have HP1 : Hid (¬ 0 < (Sq.best (byts s) k).1 → ¬ (byts s).getD k 0 = 1 → Sq.sq (byts s) k = [(byts s).getD k 0] ++ Sq.sq (byts s) (k + 1)) := fun h h1 => Sq.sq_byte (by rw [HBL.out]; exact hlt) h h1
      have hfind := Lib.hid (specFind_any s k w1 hlt hs)
      obtain ⟨x, hx⟩ : ∃ x, x = (Sq.best (byts s) k).1 := ⟨_, rfl⟩
      obtain ⟨y, hy⟩ : ∃ y, y = (Sq.best (byts s) k).2 := ⟨_, rfl⟩
      rw [← hx, ← hy] at hB hfind HM
      rw [← hx] at hBl HO1 HP1
      clear hx hy
      have hxs := str_at s k hlt
      have hxr := byts_range s k
      obtain ⟨z, hz⟩ : ∃ z, z = (byts s).getD k 0 := ⟨_, rfl⟩
      rw [← hz] at hxs hxr HO1 HP1
      clear hz
      have hlI : (k : Int) < (s.size : Int) := by omega
      go_wp2_with fail
      refine hfind.out.mono ?_
      rintro e w2 ⟨rfl, q, hq⟩
      have hb12 : Below w1.heap.size w1 w2 := by rw [hq]; exact below_drewN (Below.refl _ _) q
      have hs2 := hb12.size
      have ho2 := owns_below ho hb12
      have HB2 := Lib.hid (hb.out.trans (hb12.mono hs1))
      clear hq ho hb12 hfind hb
      by_cases h0 : 0 < x
      focus
        have HS := HM.out h0
        have hx4 : 4 ≤ x ∧ x ≤ 60 ∧ 1 ≤ y ∧ y ≤ 200 := by omega
        have HS2 : Hid ((acc ++ [1, (x : Int) - 3, (y : Int)]) ++ Sq.sq (byts s) (k + x) = Sq.sq (byts s) 0) := by
          show _ = _
          rw [← hsq.out, HS, List.append_assoc]
        have h0I : (0 : Int) < (x : Int) := by omega
        have hw1 : IntKind.u8.wrap ((x : Int) - 3) = (x : Int) - 3 := by simp [IntKind.wrap, IntKind.signed, IntKind.bits]; omega
        have hw2 : IntKind.u8.wrap (y : Int) = (y : Int) := by simp [IntKind.wrap, IntKind.signed, IntKind.bits]; omega
        have hw3 : ((x : Int) - 3) % 256 = (x : Int) - 3 := by omega
        have hw4 : (y : Int) % 256 = (y : Int) := by omega
        clear HS HM HO1 HP1 hB hsq
        go_wp2_with (at_builtin; refine wpList_append_own _ rfl _ _ 22 rfl w.heap.size 5 i0 (.int .u8 0) 1 1 Try.underlying22 hi hz0 hz1 hz2 rfl (by decide) _ _ _ rfl (ho2.alloc _) ⟨w2.heap.size, 0, none⟩ 3 3 [.int .u8 1, .int .u8 ((x : Int) - 3), .int .u8 (y : Int)] rfl rfl ?c1 ?c2 ?c3 ?c4 ?c5 ?_)
        case c1 => exact row_cells w2 .u8 [1, (x : Int) - 3, (y : Int)] _
        case c2 => exact ints_oneCell .u8 [1, (x : Int) - 3, (y : Int)]
        case c3 => unfold maxLen; omega
        case c4 => omega
        case c5 => simp; omega
        intro v3 w3 ho3 hg3 _
        have HB3 : Hid (Below w.heap.size w w3) := (HB2.out.alloc HB2.out.size _).grown hg3 (by rw [World.size_alloc]; have := HB2.out.size; omega) (fun g h => (ho2.lt g h).1)
        have ho4 : w3.ownsRow w.heap.size 5 1 v3 (acc ++ [1, (x : Int) - 3, (y : Int)]).length (cellsByteS (acc ++ [1, (x : Int) - 3, (y : Int)])) := by simpa using ho3
        clear ho3 hg3 ho2 HB2
        go_wp2
        go_roundw
        case rel => exact ⟨k + x, acc ++ [1, (x : Int) - 3, (y : Int)], by go_num, by omega, ho4, by rw [List.length_append]; simp; omega, HS2, HB3⟩
        case measure => simp [intOf]; omega
      have h0I : ¬ (0 : Int) < (x : Int) := by omega
      by_cases h1 : z = 1
      focus
        have HS := HO1.out h0 h1
        have HS2 : Hid ((acc ++ [1, 0]) ++ Sq.sq (byts s) (k + 1) = Sq.sq (byts s) 0) := by
          show _ = _
          rw [← hsq.out, HS, List.append_assoc]
        subst h1
        clear HS HM HO1 HP1 hB hsq
        go_wp2_with (at_builtin; refine wpList_append_own _ rfl _ _ 22 rfl w.heap.size 5 i0 (.int .u8 0) 1 1 Try.underlying22 hi hz0 hz1 hz2 rfl (by decide) _ _ _ rfl (ho2.alloc _) ⟨w2.heap.size, 0, none⟩ 2 2 [.int .u8 1, .int .u8 0] rfl rfl ?c1 ?c2 ?c3 ?c4 ?c5 ?_)
        case c1 => exact row_cells w2 .u8 [1, 0] _
        case c2 => exact ints_oneCell .u8 [1, 0]
        case c3 => unfold maxLen; omega
        case c4 => omega
        case c5 => simp; omega
        intro v3 w3 ho3 hg3 _
        have HB3 : Hid (Below w.heap.size w w3) := (HB2.out.alloc HB2.out.size _).grown hg3 (by rw [World.size_alloc]; have := HB2.out.size; omega) (fun g h => (ho2.lt g h).1)
        have ho4 : w3.ownsRow w.heap.size 5 1 v3 (acc ++ [1, 0]).length (cellsByteS (acc ++ [1, 0])) := by simpa using ho3
        clear ho3 hg3 ho2 HB2
        go_wp2
        go_roundw
        case rel => exact ⟨k + 1, acc ++ [1, 0], by go_num, by omega, ho4, by rw [List.length_append]; simp; omega, HS2, HB3⟩
        case measure => simp [intOf]; omega
      have HS := HP1.out h0 h1
      have HS2 : Hid ((acc ++ [z]) ++ Sq.sq (byts s) (k + 1) = Sq.sq (byts s) 0) := by
        show _ = _
        rw [← hsq.out, HS, List.append_assoc]
      have h1D : (z == 1) = false := by simp [h1]
      clear HS HM HO1 HP1 hB hsq
      go_wp2_with (at_builtin; refine wpList_append_own _ rfl _ _ 22 rfl w.heap.size 5 i0 (.int .u8 0) 1 1 Try.underlying22 hi hz0 hz1 hz2 rfl (by decide) _ _ _ rfl (ho2.alloc _) ⟨w2.heap.size, 0, none⟩ 1 1 [.int .u8 z] rfl rfl ?c1 ?c2 ?c3 ?c4 ?c5 ?_)
      case c1 => exact row_cells w2 .u8 [z] _
      case c2 => exact ints_oneCell .u8 [z]
      case c3 => unfold maxLen; omega
      case c4 => omega
      case c5 => simp; omega
      intro v3 w3 ho3 hg3 _
      have HB3 : Hid (Below w.heap.size w w3) := (HB2.out.alloc HB2.out.size _).grown hg3 (by rw [World.size_alloc]; have := HB2.out.size; omega) (fun g h => (ho2.lt g h).1)
      have ho4 : w3.ownsRow w.heap.size 5 1 v3 (acc ++ [z]).length (cellsByteS (acc ++ [z])) := by simpa using ho3
      clear ho3 hg3 ho2 HB2
      go_wp2
      go_roundw
      case rel => exact ⟨k + 1, acc ++ [z], by go_num, by omega, ho4, by rw [List.length_append]; simp; omega, HS2, HB3⟩
      case measure => simp [intOf]; omega
    obtain rfl : k = s.size := by omega
    have hE := hsq.out
    rw [Sq.sq_end (by rw [HBL.out]; exact Nat.le_refl _), List.append_nil] at hE
    have hcv := str_own ho (by rw [hE]; exact HBY.out)
    have HE := Lib.hid hE
    have HB1 := Lib.hid hb.out
    clear hE hsq ho hal
    go_wp2
    go_ret
    exact ⟨ret_str (by rw [HE.out]), HB1.out⟩
theorem specSqueezed_any (s : ByteArray) (w : World) (hs : s.size ≤ 9223372036854775807) :
    Calls Try.prog 42 #[.string s] w fun e w' => e = .returned (.string (sqT s)) ∧ Below w.heap.size w w' := by
  by_cases h : 20000 < s.size
  focus
    have e : sqT s = ⟨#[]⟩ := by unfold sqT; rw [if_pos h]
    rw [e]
    have hI : (20000 : Int) < (s.size : Int) := by omega
    clear e
    go_enter Try.func42, Try.ntmps42
    go_wp2
    go_ret
    exact ⟨rfl, Below.refl _ _⟩
  have e : sqT s = asB (Sq.sq (byts s) 0) := by unfold sqT; rw [if_neg h]
  rw [e]
  have hI : ¬ (20000 : Int) < (s.size : Int) := by omega
  have H := l6Sq_any s w (by omega)
  generalize asB (Sq.sq (byts s) 0) = t at H
  clear e
  go_enter Try.func42, Try.ntmps42
  go_wp2_with fail
  refine H.mono ?_
  rintro e w1 ⟨rfl, hb⟩
  go_wp2
  go_ret
  exact ⟨rfl, hb⟩
theorem specGain_any (s : ByteArray) (w : World) (hs : s.size ≤ 9223372036854775807) :
    Calls Try.prog 44 #[.string s] w fun e w' => e = .returned (.int .i64 (gainT s)) ∧ Below w.heap.size w w' := by
  have H := Lib.hid (specSqueezed_any s w hs)
  have hz := sqT_size s
  have HG : Hid (gainT s = (s.size : Int) - ((sqT s).size : Int)) := rfl
  generalize sqT s = t at H hz HG
  go_enter Try.func44, Try.ntmps44
  go_wp2_with fail
  refine H.out.mono ?_
  rintro e w1 ⟨rfl, hb⟩
  go_wp2
  go_ret
  exact ⟨ret_int (by rw [HG.out]), hb⟩
end Go.Proofs.Ytgcpdifggjkdhab
