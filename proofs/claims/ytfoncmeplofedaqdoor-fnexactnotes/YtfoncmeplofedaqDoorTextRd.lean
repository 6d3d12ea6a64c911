/- CONTRACT: (*impl.cursor).piece, (*impl.cursor).text. -/
import Derived.Test.YtfoncmeplofedaqDoorTextM
import Derived.Test.YtfoncmeplofedaqDoorClone
import Derived.Deep.RegionWith
namespace Go.Proofs.YtfoncmeplofedaqDoor
open Go.RowKit
set_option linter.unusedVariables false

theorem slice_text (s : ByteArray) (a b : Nat) (hab : a ≤ b) (hb : b ≤ s.size) {i j : Int} (hi : i = (a : Int)) (hj : j = (b : Int)) (w : World) :
    (Instr.slice 9 (.string s) (some (.int .i64 i)) (some (.int .i64 j)) none).run Tryd.prog w = .ok (.string (s.extract a b)) w := by
  subst hi hj
  rw [run_slice_string _ 9 s .i64 .i64 _ _ Tryd.underlying9 (by omega) (by omega) (by omega), Int.toNat_natCast, Int.toNat_natCast]

def TextEnd (cb : Nat) (s : ByteArray) (p : Nat) (w : World) (e : Ending) (w' : World) : Prop :=
  (rdT s p = none ∧ e = .returned (.tuple #[.string ⟨#[]⟩, .bool false]) ∧ Below w.heap.size w w') ∨
  (∃ x k, rdT s p = some (x, k) ∧ p + k ≤ s.size ∧ x.size ≤ 2000 ∧ e = .returned (.tuple #[.string x, .bool true]) ∧ Cur w' cb s (p + k) ∧ w.grownBy w' (some cb))

theorem grown_store {w wr : World} {cb : Nat} (hb : Below w.heap.size w wr) (u : Value) : w.grownBy (wr.setCell ⟨cb, 1, none⟩ u) (some cb) :=
  grown_trans ⟨hb.os, hb.tape, hb.output, hb.size, fun k hk _ => hb.block k hk⟩ ⟨rfl, rfl, rfl, by simp, fun k _ hk => heap_setCell_other wr ⟨cb, 1, none⟩ k u (fun e => hk (by simp [e]))⟩

theorem extract_le (s : ByteArray) (a m : Nat) : (s.extract a (a + m)).size ≤ m := by
  rw [ByteArray.size_extract]; omega

def PieceEnd (most cb : Nat) (s : ByteArray) (p : Nat) (w : World) (e : Ending) (w' : World) : Prop :=
  (rdM most s p = none ∧ e = .returned (.tuple #[.string ⟨#[]⟩, .bool false]) ∧ Below w.heap.size w w') ∨
  (∃ x k, rdM most s p = some (x, k) ∧ p + k ≤ s.size ∧ x.size ≤ most ∧ x.size ≤ k ∧ e = .returned (.tuple #[.string x, .bool true]) ∧ Cur w' cb s (p + k) ∧ w.grownBy w' (some cb))

set_option maxHeartbeats 4000000 in
set_option maxRecDepth 100000 in
theorem piece_any (most cb : Nat) (s : ByteArray) (p : Nat) (w : World) (hc : Cur w cb s p) (hp : p ≤ s.size) (hs : s.size ≤ 1048576) (hmost : most ≤ 1099511627776) :
    Calls Tryd.prog 18 #[.pointer (some ⟨cb, 0, none⟩), .int .i64 (most : Int)] w (PieceEnd most cb s p w) := by
  have h0 := cur_cell0 hc
  have h1 := cur_cell1 hc
  have hcl := cur_lt hc
  have HN : Hid ((byts s).length = s.size) := byts_len s
  have hca : Cur (w.alloc (.cells #[.string s, .int .i64 (p : Int)] 53)) w.heap.size s p := heap_alloc_new w _
  have hbW : Below w.heap.size w (w.alloc (.cells #[.string s, .int .i64 (p : Int)] 53)) := (Below.refl _ _).alloc (Nat.le_refl _) _
  have HC : Hid (Cur w cb s p) := hc
  go_enter Tryd.func18, Tryd.ntmps18
  go_wp2_with fail
  refine (number_any w.heap.size s p _ hca hp (by omega)).mono ?_
  rintro e w1 hn1
  rcases number_cases hn1 with ⟨hr, rfl, hb1⟩ | ⟨m, k, hr, rfl, hcur1, hg1⟩
  · have hb : Below w.heap.size w w1 := hbW.trans (hb1.mono hbW.size)
    clear hn1 hca hc h0 h1
    go_wp2
    go_ret2
    exact .inl ⟨rdM_none hr, rfl, hb⟩
  · obtain ⟨hk0, hkn, _⟩ := rdP_some hr
    rw [HN.out] at hkn
    have hb : Below w.heap.size w w1 := hbW.grown hg1 hbW.size (fun k hk => by cases hk; exact Nat.le_refl _)
    have hcc : Cur w1 cb s p := cur_below HC.out hb hcl
    have a0 := cur_cell0 hcur1
    have a1 := cur_cell1 hcur1
    have hlt1 := cur_lt hcur1
    clear hn1 hca hc h0 h1 hg1 hbW
    by_cases hm : (most : Int) < (m : Int)
    · go_wp2
      go_ret2
      exact .inl ⟨rdM_bad hr (Or.inl (by omega)), rfl, hb⟩
    · by_cases hend : (s.size : Int) - ((p : Int) + (k : Int)) < (m : Int)
      · go_wp2
        go_ret2
        exact .inl ⟨rdM_bad hr (Or.inr (by omega)), rfl, hb⟩
      · have HR := rdM_some (most := most) hr (by omega)
        have hx := extract_le s (p + k) m
        obtain ⟨x, hxx⟩ : ∃ x, x = s.extract (p + k) (p + k + m) := ⟨_, rfl⟩
        have hslc := slice_text s (p + k) (p + k + m) (by omega) (by omega) (i := (p : Int) + (k : Int)) (j := (p : Int) + (k : Int) + (m : Int)) (by omega) (by omega)
        rw [← hxx] at HR hx hslc
        have HRT : Hid (rdM most s p = some (x, k + m)) := HR
        have c0 := cur_cell0 hcc
        have c1 := cur_cell1 hcc
        have cf := cur_free hcc 1
        have hst := cur_store (q := p + (k + m)) hcc hb ((p : Int) + (k : Int) + (m : Int)) (by omega)
        obtain ⟨hcs, hgs⟩ := hst
        have d0 := cur_cell0 hcs
        have d1 := cur_cell1 hcs
        have e0 : (w1.setCell ⟨cb, 1, none⟩ (.int .i64 ((p : Int) + (k : Int) + (m : Int)))).cell? ⟨w.heap.size, 0, none⟩ = some (.string s) := (World.cell?_setCell_other _ _ _ _ (by simp only [ne_eq, Addr.mk.injEq]; omega)).trans a0
        have e1 : (w1.setCell ⟨cb, 1, none⟩ (.int .i64 ((p : Int) + (k : Int) + (m : Int)))).cell? ⟨w.heap.size, 1, none⟩ = some (.int .i64 ((p + k : Nat) : Int)) := (World.cell?_setCell_other _ _ _ _ (by simp only [ne_eq, Addr.mk.injEq]; omega)).trans a1
        have HM : Hid (m ≤ most ∧ p + k + m ≤ s.size) := ⟨by omega, by omega⟩
        clear hxx HR hr hcc
        rw [show ((p + (k + m) : Nat) : Int) = (p : Int) + (k : Int) + (m : Int) by omega] at d1
        rw [show ((p + k : Nat) : Int) = (p : Int) + (k : Int) by omega] at e1
        go_wp2
        generalize hw2 : w1.setCell ⟨cb, 1, none⟩ (.int .i64 ((p : Int) + (k : Int) + (m : Int))) = w2 at hcs hgs d0 d1 e0 e1 ⊢
        have HCS : Hid (Cur w2 cb s (p + (k + m))) := hcs
        have HGS : Hid (w.grownBy w2 (some cb)) := hgs
        clear hw2 c0 c1 cf a0 a1 hcur1 hb hcs hgs hlt1 hm hend
        go_region_with (fail)
        all_goals
          go_wp2
          go_ret2
          have hb4 : Below w2.heap.size w2 w2.drew := (Below.refl w2.heap.size w2).drew
          exact .inr ⟨x, k + m, HRT.out, by have := HM.out; omega, by have := HM.out; omega, by omega, rfl, cur_below HCS.out hb4 (cur_lt HCS.out), grown_below HGS.out hb4⟩
set_option maxHeartbeats 4000000 in
set_option maxRecDepth 100000 in
theorem text_any (cb : Nat) (s : ByteArray) (p : Nat) (w : World) (hc : Cur w cb s p) (hp : p ≤ s.size) (hs : s.size ≤ 1048576) :
    Calls Tryd.prog 44 #[.pointer (some ⟨cb, 0, none⟩)] w (TextEnd cb s p w) := by
  have HP := Lib.hid (piece_any 2000 cb s p w hc hp hs (by decide))
  clear hc
  go_enter Tryd.func44, Tryd.ntmps44
  go_wp2_with fail
  refine HP.out.mono ?_
  rintro e w1 hp1
  rcases hp1 with ⟨hr, rfl, hb1⟩ | ⟨x, k, hr, hk, hx, _, rfl, hcur, hg⟩
  · have HR := Lib.hid hr
    have HB := Lib.hid hb1
    clear HP hr hb1
    go_wp2_with fail
    refine (clone_any ⟨#[]⟩ _ (by decide)).mono ?_
    rintro e w3 ⟨rfl, hb3⟩
    go_wp2
    go_ret2
    exact .inl ⟨HR.out, rfl, HB.out.trans (hb3.mono HB.out.size)⟩
  · have HR := Lib.hid hr
    have HCS := Lib.hid hcur
    have HGS := Lib.hid hg
    clear HP hr hcur hg
    go_wp2_with fail
    refine (clone_any x _ (by omega)).mono ?_
    rintro e w3 ⟨rfl, hb4⟩
    go_wp2
    go_ret2
    exact .inr ⟨x, k, HR.out, hk, hx, rfl, cur_below HCS.out hb4 (cur_lt HCS.out), grown_below HGS.out hb4⟩
end Go.Proofs.YtfoncmeplofedaqDoor
