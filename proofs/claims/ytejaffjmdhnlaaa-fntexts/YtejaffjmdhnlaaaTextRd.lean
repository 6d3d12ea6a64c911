/- CONTRACT: (*impl.cursor).text. -/
import Derived.Test.YtejaffjmdhnlaaaItems
import Derived.Test.YtejaffjmdhnlaaaClone
import Derived.Deep.RegionWith
namespace Go.Proofs.Ytejaffjmdhnlaaa
open Go.RowKit

/-- the text at place p of s -/
def rdT (s : ByteArray) (p : Nat) : Option (ByteArray × Nat) := match rdP (byts s) p with
  | none => none
  | some (m, k) => if 2000 < m ∨ s.size < p + k + m then none else some (s.extract (p + k) (p + k + m), k + m)
theorem rdT_none {s : ByteArray} {p : Nat} (h : rdP (byts s) p = none) : rdT s p = none := by unfold rdT; rw [h]
theorem rdT_bad {s : ByteArray} {p m k : Nat} (h : rdP (byts s) p = some (m, k)) (hb : 2000 < m ∨ s.size < p + k + m) : rdT s p = none := by unfold rdT; rw [h]; simp only; rw [if_pos hb]
theorem rdT_some {s : ByteArray} {p m k : Nat} (h : rdP (byts s) p = some (m, k)) (hb : ¬ (2000 < m ∨ s.size < p + k + m)) : rdT s p = some (s.extract (p + k) (p + k + m), k + m) := by unfold rdT; rw [h]; simp only; rw [if_neg hb]
/-- what ReadTexts tells -/
def readTexts (s : ByteArray) : Option (List ByteArray) := readL (rdT s) (byts s)

theorem slice_text (s : ByteArray) (a b : Nat) (hab : a ≤ b) (hb : b ≤ s.size) {i j : Int} (hi : i = (a : Int)) (hj : j = (b : Int)) (w : World) :
    (Instr.slice 9 (.string s) (some (.int .i64 i)) (some (.int .i64 j)) none).run Try.prog w = .ok (.string (s.extract a b)) w := by
  subst hi hj
  rw [run_slice_string _ 9 s .i64 .i64 _ _ Try.underlying9 (by omega) (by omega) (by omega), Int.toNat_natCast, Int.toNat_natCast]

def TextEnd (cb : Nat) (s : ByteArray) (p : Nat) (w : World) (e : Ending) (w' : World) : Prop :=
  (rdT s p = none ∧ e = .returned (.tuple #[.string ⟨#[]⟩, .bool false]) ∧ Below w.heap.size w w') ∨
  (∃ x k, rdT s p = some (x, k) ∧ p + k ≤ s.size ∧ x.size ≤ 2000 ∧ e = .returned (.tuple #[.string x, .bool true]) ∧ Cur w' cb s (p + k) ∧ w.grownBy w' (some cb))

theorem grown_store {w wr : World} {cb : Nat} (hb : Below w.heap.size w wr) (u : Value) : w.grownBy (wr.setCell ⟨cb, 1, none⟩ u) (some cb) :=
  grown_trans ⟨hb.os, hb.tape, hb.output, hb.size, fun k hk _ => hb.block k hk⟩ ⟨rfl, rfl, rfl, by simp, fun k _ hk => heap_setCell_other wr ⟨cb, 1, none⟩ k u (fun e => hk (by simp [e]))⟩

theorem extract_le (s : ByteArray) (a m : Nat) : (s.extract a (a + m)).size ≤ m := by
  rw [ByteArray.size_extract]; omega

set_option maxHeartbeats 4000000 in
set_option maxRecDepth 100000 in
theorem text_any (cb : Nat) (s : ByteArray) (p : Nat) (w : World) (hc : Cur w cb s p) (hp : p ≤ s.size) (hs : s.size ≤ 1048576) :
    Calls Try.prog 39 #[.pointer (some ⟨cb, 0, none⟩)] w (TextEnd cb s p w) := by
  have h0 := cur_cell0 hc
  have h1 := cur_cell1 hc
  have hcl := cur_lt hc
  have HN : Hid ((byts s).length = s.size) := byts_len s
  have hca : Cur (w.alloc (.cells #[.string s, .int .i64 (p : Int)] 51)) w.heap.size s p := heap_alloc_new w _
  have hbW : Below w.heap.size w (w.alloc (.cells #[.string s, .int .i64 (p : Int)] 51)) := (Below.refl _ _).alloc (Nat.le_refl _) _
  have HC : Hid (Cur w cb s p) := hc
  go_enter Try.func39, Try.ntmps39
  go_wp2_with fail
  refine (number_any w.heap.size s p _ hca hp (by omega)).mono ?_
  rintro e w1 hn1
  rcases number_cases hn1 with ⟨hr, rfl, hb1⟩ | ⟨m, k, hr, rfl, hcur1, hg1⟩
  · have hb : Below w.heap.size w w1 := hbW.trans (hb1.mono hbW.size)
    clear hn1 hca hc h0 h1
    go_wp2
    go_ret2
    exact .inl ⟨rdT_none hr, rfl, hb⟩
  · obtain ⟨hk0, hkn, _⟩ := rdP_some hr
    rw [HN.out] at hkn
    have hb : Below w.heap.size w w1 := hbW.grown hg1 hbW.size (fun k hk => by cases hk; exact Nat.le_refl _)
    have hcc : Cur w1 cb s p := cur_below HC.out hb hcl
    have a0 := cur_cell0 hcur1
    have a1 := cur_cell1 hcur1
    have hlt1 := cur_lt hcur1
    clear hn1 hca hc h0 h1 hg1 hbW
    by_cases hm : 2000 < (m : Int)
    · go_wp2
      go_ret2
      exact .inl ⟨rdT_bad hr (Or.inl (by omega)), rfl, hb⟩
    · by_cases hend : (s.size : Int) - ((p : Int) + (k : Int)) < (m : Int)
      · go_wp2
        go_ret2
        exact .inl ⟨rdT_bad hr (Or.inr (by omega)), rfl, hb⟩
      · have HR := rdT_some hr (by omega)
        have hx := extract_le s (p + k) m
        obtain ⟨x, hxx⟩ : ∃ x, x = s.extract (p + k) (p + k + m) := ⟨_, rfl⟩
        have hslc := slice_text s (p + k) (p + k + m) (by omega) (by omega) (i := (p : Int) + (k : Int)) (j := (p : Int) + (k : Int) + (m : Int)) (by omega) (by omega)
        rw [← hxx] at HR hx hslc
        have HRT : Hid (rdT s p = some (x, k + m)) := HR
        have c0 := cur_cell0 hcc
        have c1 := cur_cell1 hcc
        have cf := cur_free hcc 1
        have hst := cur_store (q := p + (k + m)) hcc hb ((p : Int) + (k : Int) + (m : Int)) (by omega)
        obtain ⟨hcs, hgs⟩ := hst
        have d0 := cur_cell0 hcs
        have d1 := cur_cell1 hcs
        have e0 : (w1.setCell ⟨cb, 1, none⟩ (.int .i64 ((p : Int) + (k : Int) + (m : Int)))).cell? ⟨w.heap.size, 0, none⟩ = some (.string s) := (World.cell?_setCell_other _ _ _ _ (by simp only [ne_eq, Addr.mk.injEq]; omega)).trans a0
        have e1 : (w1.setCell ⟨cb, 1, none⟩ (.int .i64 ((p : Int) + (k : Int) + (m : Int)))).cell? ⟨w.heap.size, 1, none⟩ = some (.int .i64 ((p + k : Nat) : Int)) := (World.cell?_setCell_other _ _ _ _ (by simp only [ne_eq, Addr.mk.injEq]; omega)).trans a1
        clear hxx HR hr hcc
        rw [show ((p + (k + m) : Nat) : Int) = (p : Int) + (k : Int) + (m : Int) by omega] at d1
        rw [show ((p + k : Nat) : Int) = (p : Int) + (k : Int) by omega] at e1
        go_wp2
        generalize hw2 : w1.setCell ⟨cb, 1, none⟩ (.int .i64 ((p : Int) + (k : Int) + (m : Int))) = w2 at hcs hgs d0 d1 e0 e1 ⊢
        have HCS : Hid (Cur w2 cb s (p + (k + m))) := hcs
        have HGS : Hid (w.grownBy w2 (some cb)) := hgs
        clear hw2 c0 c1 cf a0 a1 hcur1 hb hcs hgs hlt1 hm hend
        go_region_with (go_at_call 41; refine (clone_any x _ (by omega)).mono ?_; rintro e w3 ⟨rfl, hb3⟩)
        all_goals
          go_wp2
          go_ret2
          have hb4 : Below w2.heap.size w2 w3 := (Below.refl w2.heap.size w2).drew.trans hb3
          exact .inr ⟨x, k + m, HRT.out, by omega, by omega, rfl, cur_below HCS.out hb4 (cur_lt HCS.out), grown_below HGS.out hb4⟩

end Go.Proofs.Ytejaffjmdhnlaaa
