/- CONTRACTS: the program's areNodes, dotsOf, dotted, NewRing. -/
import Derived.Test.YtjjaephhnlhnkacDoorRngW
import Derived.Test.YtjjaephhnlhnkacDoorRngB
import Derived.Test.YtjjaephhnlhnkacDoorNDtI
import Derived.Test.YtjjaephhnlhnkacDoorNumAdd
import Derived.Test.YtjjaephhnlhnkacDoorFmt
namespace Go.Proofs.YtjjaephhnlhnkacDoor
open Go.RowKit Go.Maps
set_option linter.unusedVariables false
/-- unlike numbers from 0 on below n are no more than n -/
theorem nodup_few : ∀ (n : Nat) (l : List Int), l.Nodup → (∀ x ∈ l, 0 ≤ x ∧ x < (n : Int)) → l.length ≤ n
  | 0, l, _, h => by
    cases l with
    | nil => exact Nat.le_refl _
    | cons x t => have := h x List.mem_cons_self; omega
  | n + 1, l, hd, h => by
    have h1 := nodup_few n (l.erase (n : Int)) (hd.erase _) (fun x hx => by
      have h2 := h x (List.mem_of_mem_erase hx)
      have h3 : x ≠ (n : Int) := ((List.Nodup.mem_erase_iff hd).1 hx).1
      omega)
    have h2 : l.length ≤ (l.erase (n : Int)).length + 1 := by
      rw [List.length_erase]
      split <;> omega
    omega
set_option maxHeartbeats 4000000 in
set_option maxRecDepth 100000 in
theorem areNodes_any (va : Value) (l : List Int) (w : World) (ha : Rd w va (cellsInt64S l)) (hl : l.length ≤ 1048576) :
    Calls Tryd.prog 35 #[va] w fun e w' => e = .returned (.bool (decide (NodesP l 15))) ∧ Below w.heap.size w w' := by
  have hmm := @run_makeMap Tryd.prog
  have hla : (cellsInt64S l).length = l.length := by simp
  obtain ⟨ao, cap, hv, hcap, hx⟩ := ha
  rw [hla] at hv hcap hx
  have HX : Hid (∀ j, j < l.length → ∃ b off, ao = some ⟨b, off, none⟩ ∧ b < w.heap.size ∧ w.cell? ⟨b, off + j, none⟩ = some (.int .i64 (l.getD j 0))) := fun j hj => by
    obtain ⟨b, off, h1, h2, h3⟩ := hx (by intro h; rw [h] at hla; simp at hla; omega)
    exact ⟨b, off, h1, h2, (h3 j hj).trans (ints_get _ l j hj)⟩
  have HNO : Hid (∀ i, i < l.length → ¬ ((0 ≤ l.getD i 0 ∧ l.getD i 0 ≤ 15) ∧ l.getD i 0 ∉ l.take i) → decide (NodesP l 15) = false) := fun i hi h => decide_eq_false (nodes_no hi h)
  have HYES : Hid (1 ≤ l.length → (∀ i, i < l.length → ((0 ≤ l.getD i 0 ∧ l.getD i 0 ≤ 15) ∧ l.getD i 0 ∉ l.take i)) → decide (NodesP l 15) = true) := fun h1 h => decide_eq_true (by
    have hm : NodesP (l.take 16) 15 := nodes_yes ⟨by rw [List.length_take]; omega, by rw [List.length_take]; omega⟩ fun i hi => by
      rw [List.length_take] at hi
      have h9 := h i (by omega)
      have e : (l.take 16).getD i 0 = l.getD i 0 := by
        rw [getD_int (by rw [List.length_take]; omega), getD_int (show i < l.length by omega), List.getElem_take]
      rw [e, List.take_take, Nat.min_eq_left (by omega)]
      exact h9
    have hall : (∀ x ∈ l, 0 ≤ x ∧ x < ((16 : Nat) : Int)) := fun x hx => by
      obtain ⟨i, hi, rfl⟩ := List.getElem_of_mem hx
      have h9 := (h i hi).1
      rw [getD_int hi] at h9
      omega
    have hnd : l.Nodup := List.pairwise_iff_getElem.2 fun i j hi hj hij e => by
      have h9 := (h j hj).2
      rw [getD_int hj, ← e] at h9
      exact h9 (List.mem_iff_getElem.2 ⟨i, by rw [List.length_take]; omega, by rw [List.getElem_take]⟩)
    have hfew := nodup_few 16 l hnd hall
    exact nodes_yes ⟨h1, hfew⟩ h)
  have HNIL : Hid (l.length = 0 → decide (NodesP l 15) = false) := fun h => decide_eq_false fun g => by have := g.1.1; omega
  have HTK : Hid (∀ j, j < l.length → l.take (j + 1) = l.take j ++ [l.getD j 0]) := fun j hj => by
    rw [List.take_succ_eq_append_getElem hj, getD_int hj]
  generalize decide (NodesP l 15) = R at HNO HYES HNIL ⊢
  obtain ⟨n, hn⟩ : ∃ n, n = l.length := ⟨_, rfl⟩
  rw [← hn] at hl hv HX HNO HYES HNIL HTK
  clear hn hx hla hcap
  subst hv
  have hB0 : Below w.heap.size w (w.alloc (.map #[] 0)) := (Below.refl _ _).alloc (Nat.le_refl _) _
  have hM0 : SetM w.heap.size 0 (.map []) (w.alloc (.map #[] 0)) := World.ownsMap_made _ _ _ _
  have hisn := Lib.hid (fun (x : Int) (W : World) => isNode_any x W)
  go_enter Tryd.func35, Tryd.ntmps35
  go_wp2
  obtain ⟨bm, hbm⟩ : ∃ bm, bm = w.heap.size := ⟨_, rfl⟩
  rw [← hbm] at hM0 hB0 HX ⊢
  have HBM := Lib.hid hbm
  go_loopw [9] (fun i wr => ∃ (k : Nat) (D : DataW Unit), k ≤ n ∧ i = .int .i64 k ∧ SetM bm k D wr ∧ bm + 1 ≤ wr.heap.size ∧ Hid (Has D (l.take k)) ∧ Hid (∀ i, i < k → ((0 ≤ l.getD i 0 ∧ l.getD i 0 ≤ 15) ∧ l.getD i 0 ∉ l.take i)) ∧ Below bm w wr) (fun i _ => n - (intOf i).toNat)
  case atStart => exact ⟨0, _, Nat.zero_le _, rfl, hM0, by rw [World.size_alloc]; omega, has_start, fun i h => absurd h (Nat.not_lt_zero _), hB0⟩
  case round =>
    obtain ⟨k, D, hk, rfl, hm, hbz, hhas, hok, hb⟩ := hrel
    clear hB0 hM0 hbm
    by_cases hltk : k < n
    rotate_left
    · obtain rfl : k = n := by omega
      have HB : Hid (Below w.heap.size w _) := Lib.hid (by have h9 := hb; rw [HBM.out] at h9; exact h9)
      by_cases h0 : k = 0
      · have HR := Lib.hid (HNIL.out h0)
        subst h0
        clear hb hm hhas hok
        go_wp2
        go_ret
        exact ⟨ret_boolR HR.out.symm, HB.out⟩
      · have HR := Lib.hid (HYES.out (by omega) (fun i hi => hok.out i hi))
        have hI : (0 : Int) < (k : Int) := by omega
        clear hb hm hhas hok
        go_wp2
        go_ret
        exact ⟨ret_boolR (by rw [HR.out]; exact decide_eq_true (by omega)), HB.out⟩
    obtain ⟨b, off, rfl, hlt, hc⟩ := HX.out k hltk
    have d0 := (hb.cell (p := ⟨b, off + k, none⟩) hlt).trans hc
    have hNO := Lib.hid (HNO.out k hltk)
    have hTK := HTK.out k hltk
    have hnew : Hid (((0 ≤ l.getD k 0 ∧ l.getD k 0 ≤ 15) ∧ l.getD k 0 ∉ l.take k) → ∀ i, i < k + 1 → ((0 ≤ l.getD i 0 ∧ l.getD i 0 ≤ 15) ∧ l.getD i 0 ∉ l.take i)) := fun h i hi => by
      rcases Nat.lt_or_ge i k with g | g
      · exact hok.out i g
      · obtain rfl : i = k := by omega
        exact h
    have hhk := hhas.out (l.getD k 0)
    have hmp := World.ownsMap.isMap hm
    have hput : Hid (l.getD k 0 ∉ l.take k → Has (D.put (.int .i64 (l.getD k 0)) unitD) (l.take (k + 1))) := fun h => by
      rw [hTK]
      exact has_more hhas.out hmp _
    obtain ⟨x, hx⟩ : ∃ x, x = l.getD k 0 := ⟨_, rfl⟩
    rw [← hx] at d0 hNO hnew hhk hput
    clear hx hc hTK hok hhas hmp
    have HB : Hid (Below w.heap.size w _) := Lib.hid (by have h9 := hb; rw [HBM.out] at h9; exact h9)
    by_cases hr : 0 ≤ x ∧ x ≤ 15
    rotate_left
    · have hn := hisn.out x
      have e : isNodeB x = false := decide_eq_false hr
      have HR := Lib.hid (hNO.out (fun h => hr h.1))
      clear hNO hnew hput hm hb
      go_wp2_with fail
      refine (hn _).mono ?_
      rw [e]
      rintro e w2 ⟨rfl, rfl⟩
      go_wp2
      go_ret
      exact ⟨ret_boolR HR.out.symm, HB.out⟩
    have hn := hisn.out x
    have e : isNodeB x = true := decide_eq_true hr
    rw [e] at hn
    have hcall := add_any bm k D x _ (by omega) hm (by omega)
    rw [hhk] at hcall
    clear e
    by_cases hmem : x ∈ l.take k
    · have hcn : (l.take k).contains x = true := by simpa using hmem
      rw [hcn] at hcall
      have HR := Lib.hid (hNO.out (fun h => h.2 hmem))
      clear hNO hnew hput hmem hcn hhk
      go_wp2_with fail
      refine (hn _).mono ?_
      rintro e w2 ⟨rfl, rfl⟩
      go_wp2_with fail
      refine hcall.mono ?_
      rintro e w7 ⟨rfl, hM7, hg7⟩
      have HB7 : Hid (Below w.heap.size w w7) := Lib.hid (by have h9 := hb.grown hg7 (by omega) (fun k hk => by cases hk; exact Nat.le_refl _); rw [HBM.out] at h9; exact h9)
      clear hcall hg7 hM7 hm hb
      go_wp2
      go_ret
      exact ⟨ret_boolR HR.out.symm, HB7.out⟩
    · have hcn : (l.take k).contains x = false := by
        cases e : (l.take k).contains x with
        | false => rfl
        | true => exact absurd (by simpa using e) hmem
      rw [hcn] at hcall
      have HN2 := Lib.hid (hnew.out ⟨hr, hmem⟩)
      have HP2 := Lib.hid (hput.out hmem)
      clear hNO hnew hput hmem hcn hhk
      go_wp2_with fail
      refine (hn _).mono ?_
      rintro e w2 ⟨rfl, rfl⟩
      go_wp2_with fail
      refine hcall.mono ?_
      rintro e w7 ⟨rfl, hM7, hg7⟩
      have hB7 : Below bm w w7 := hb.grown hg7 (by omega) (fun k hk => by cases hk; exact Nat.le_refl _)
      have hz7 := hg7.size
      clear hcall hg7 hm hb d0
      go_wp2
      go_roundw
      case rel => exact ⟨k + 1, _, by omega, by go_num, hM7, by omega, HP2, HN2, hB7⟩
      case measure => simp [intOf]; omega
/-- the first c dots of a node -/
def dotsT (x c : Nat) : List Dt := (List.range c).map fun k => (dotAt x k, (x : Int))
theorem dotsT_succ (x c : Nat) : dotsT x (c + 1) = dotsT x c ++ [(dotAt x c, (x : Int))] := by simp [dotsT, List.range_succ]
theorem dotsT_len (x c : Nat) : (dotsT x c).length = c := by simp [dotsT]
theorem insN_dots (x : Nat) (c : Nat) (l : List Dt) : insN (x : Int) c l = (dotsT x c).foldl insD l := by
  induction c with
  | zero => rfl
  | succ c ih =>
    rw [dotsT_succ, List.foldl_append, ← ih]
    rfl
theorem step_ownDu {ops : Array Oper} {rest : List Oper} {o : Oper} {a : Act} {w : World} {Q : Exit → Act → World → Prop} (hgd : o.guard = none) (s x : Operand)
    (ho : o.op = .call { callee := .builtin .append, args := #[s, x], argTypes := #[24, 24] })
    (B : Nat) (v u : Value) (xs ys : List Dt) (hs : a.eval s = v) (hx : a.eval x = u) (h : OwnD w B v xs) (hu : RdG dtf 2 w u ys) (hl : xs.length + ys.length ≤ 16777216) (hB : B ≤ w.heap.size)
    (hK : ∀ v' w', OwnD w' B v' (xs ++ ys) → w.grownBy w' v.ownBlock → (∀ q, v'.ownBlock = some q → v.ownBlock = some q ∨ w.heap.size ≤ q) → wpList Tryd.prog ops Q rest (a.put o.dst v') w') : wpList Tryd.prog ops Q (o :: rest) a w :=
  own_stepG (dtY.ty dtW) dtW hgd s x ho B v u xs ys hs hx h hu hl hB hK
set_option maxHeartbeats 4000000 in
set_option maxRecDepth 100000 in
theorem dotsOf_any (x c : Nat) (hx : x ≤ 15) (hc : c ≤ 8) (w : World) :
    Calls Tryd.prog 37 #[.int .i64 (x : Int), .int .i64 (c : Int)] w fun e w' => ∃ v, e = .returned v ∧ OwnD w' w.heap.size v (dotsT x c) ∧ Below w.heap.size w w' := by
  have HST : Hid (∀ k, k < c → dotsT x (k + 1) = dotsT x k ++ [(digest (dotX x k) % 65536, (x : Int))]) := fun k hk => dotsT_succ x k
  go_enter Tryd.func37, Tryd.ntmps37
  go_wp2
  go_loopw [5, 9] (fun v5 v9 wr => ∃ (k : Nat) (H : List Dt), v9 = .int .i64 (k : Int) ∧ k ≤ c ∧ Hid (H.length = k) ∧ Hid (H = dotsT x k) ∧ OwnD wr w.heap.size v5 H ∧ Below w.heap.size w wr) (fun _ k _ => c - (intOf k).toNat)
  case atStart => exact ⟨0, [], rfl, Nat.zero_le _, rfl, rfl, ownG_nil _ _ _, Below.refl _ _⟩
  case round =>
    rename World => wr
    obtain ⟨k, H, rfl, hk, hHl, hH, ho, hb⟩ := hrel
    have hsb := hb.size
    by_cases hltk : k < c
    rotate_left
    · obtain rfl : k = c := by omega
      have h9 := hH.out
      clear hH
      subst h9
      go_wp2
      go_ret
      exact ⟨_, rfl, ho, hb⟩
    have hint1 := fun W => formatSmall_any x (by omega) W
    have hint2 := fun W => formatSmall_any k (by omega) W
    have hltkI : (k : Int) < (c : Int) := by omega
    have hs1 := (decN_size x).1
    have hs2 := (decN_size k).1
    have hX : dotX x k = ((⟨#[110, 111, 100, 101]⟩ ++ decN x) ++ ⟨#[46]⟩) ++ decN k := rfl
    have hXs := dotX_size x k
    have e4 : (⟨#[110, 111, 100, 101]⟩ : ByteArray).size = 4 := rfl
    have e1 : (⟨#[46]⟩ : ByteArray).size = 1 := rfl
    have hz1 : (⟨#[110, 111, 100, 101]⟩ ++ decN x : ByteArray).size ≤ 24 := by rw [ByteArray.size_append]; omega
    have hz2 : ((⟨#[110, 111, 100, 101]⟩ ++ decN x) ++ ⟨#[46]⟩ : ByteArray).size ≤ 25 := by rw [ByteArray.size_append]; omega
    have ha1 : ∀ W : World, (Op.stringOp .add ⟨#[110, 111, 100, 101]⟩ (decN x)).run Tryd.prog W = .ok (.string (⟨#[110, 111, 100, 101]⟩ ++ decN x)) W := fun W => run_string_add_sum W _ _ (by omega)
    have ha2 : ∀ W : World, (Op.stringOp .add (⟨#[110, 111, 100, 101]⟩ ++ decN x) ⟨#[46]⟩).run Tryd.prog W = .ok (.string ((⟨#[110, 111, 100, 101]⟩ ++ decN x) ++ ⟨#[46]⟩)) W := fun W => run_string_add_sum W _ _ (by omega)
    have ha3 : ∀ W : World, (Op.stringOp .add ((⟨#[110, 111, 100, 101]⟩ ++ decN x) ++ ⟨#[46]⟩) (decN k)).run Tryd.prog W = .ok (.string (((⟨#[110, 111, 100, 101]⟩ ++ decN x) ++ ⟨#[46]⟩) ++ decN k)) W := fun W => run_string_add_sum W _ _ (by omega)
    rw [← hX] at ha3
    have HST2 := Lib.hid (HST.out k hltk)
    generalize (⟨#[110, 111, 100, 101]⟩ ++ decN x) ++ ⟨#[46]⟩ = t2 at ha2 ha3 hz2
    generalize (⟨#[110, 111, 100, 101]⟩ ++ decN x : ByteArray) = t1 at ha1 ha2 hz1
    generalize decN x = dx at ha1 hint1
    generalize decN k = dk at ha3 hint2
    have hdig := fun W => implDigest_any (dotX x k) W (by omega)
    have hdin := digest_in (dotX x k)
    generalize hXg : dotX x k = t3 at ha3 hdig hdin HST2
    generalize hdg : digest t3 = dg at hdig hdin HST2
    clear hX hXs hXg hdg hs1 hs2 e4 e1
    have hdg0 : 0 ≤ dg := by omega
    have hdp : 0 ≤ dg % 65536 := by omega
    obtain ⟨av, cv, hvv⟩ := ownG_shape ho
    have HH : Hid (H ++ [(dg % 65536, (x : Int))] = dotsT x (k + 1)) := by show _ = _; rw [HST2.out, ← hH.out]
    subst hvv
    clear hH HST2 hdin
    go_wp2_with fail
    refine (hint1 _).mono ?_
    rintro e w4 ⟨rfl, rfl⟩
    go_wp2_with fail
    refine (hint2 _).mono ?_
    rintro e w5 ⟨rfl, rfl⟩
    go_wp2_with fail
    refine (hdig _).mono ?_
    rintro e w6 ⟨rfl, rfl⟩
    clear hint1 hint2 hdig
    have hrq := rdG_one dtW w6 (dg % 65536, (x : Int)) 51
    have hoa := ho.alloc (.cells #[.int .i64 (dg % 65536), .int .i64 (x : Int)] 51)
    have hba := hb.alloc hsb (.cells #[.int .i64 (dg % 65536), .int .i64 (x : Int)] 51)
    have hsA : w.heap.size ≤ (w6.alloc (.cells #[.int .i64 (dg % 65536), .int .i64 (x : Int)] 51)).heap.size := by rw [World.size_alloc]; omega
    have hln : H.length + [(dg % 65536, (x : Int))].length ≤ 16777216 := by have := hHl.out; rw [List.length_singleton]; omega
    clear ho hb
    go_wp2_with (at_builtin; refine step_ownDu rfl _ _ rfl w.heap.size _ (.slice (some ⟨w6.heap.size, 0, none⟩) 1 1) H [(dg % 65536, (x : Int))] rfl rfl hoa hrq hln hsA ?_)
    intro v20 w20 ho20 hg20 hi20
    have HB20 := Lib.hid (hba.grown hg20 hsA (fun k hk => (hoa.lt k hk).1))
    have HO20 := Lib.hid ho20
    have hHl2 : Hid ((H ++ [(dg % 65536, (x : Int))]).length = k + 1) := by show _ = _; rw [List.length_append, List.length_singleton, hHl.out]
    clear ho20 hg20 hi20 hoa hba hrq hln
    go_wp2
    go_roundw
    case rel => exact ⟨k + 1, _, by go_num, by omega, hHl2, HH, HO20.out, HB20.out⟩
    case measure => simp [intOf]; omega
theorem ring_num {l : List Dt} (h : l.Pairwise (fun a b => a.1 < b.1)) : RiseN (fun j => (l.getD j dt0).1) l.length := fun i hi h0 => by
  have h9 := List.pairwise_iff_getElem.1 h (i - 1) i (by omega) hi (by omega)
  show (l.getD (i - 1) dt0).1 < (l.getD i dt0).1
  rwa [getD_dt hi, getD_dt (show i - 1 < l.length by omega)]
set_option maxHeartbeats 4000000 in
set_option maxRecDepth 100000 in
theorem dotted_any (B : Nat) (va vb : Value) (l ys : List Dt) (w : World) (ho : OwnD w B va l) (hb : RdG dtf 2 w vb ys) (hB : B ≤ w.heap.size) (hl : l.length + ys.length ≤ 1048000) (hs : l.Pairwise (fun a b => a.1 < b.1)) :
    Calls Tryd.prog 36 #[va, vb] w fun e w' => ∃ v, e = .returned v ∧ OwnD w' B v (ys.foldl insD l) ∧ Below w.heap.size w w' := by
  have HX : Hid (∀ j, j < ys.length → ∀ W, Below w.heap.size w W → ∃ b off, vb.ownBlock = some b ∧ (∃ c, vb = .slice (some ⟨b, off, none⟩) ys.length c) ∧ W.cell? ⟨b, off + j * 2, none⟩ = some (.int .i64 (ys.getD j dt0).1) ∧ W.cell? ⟨b, off + j * 2 + 1, none⟩ = some (.int .i64 (ys.getD j dt0).2)) := fun j hj W hW => by
    rcases rdG_cases hb with ⟨h0, _⟩ | ⟨_, b, off, cap, rfl, _, hlt, hc⟩
    · rw [h0] at hj; exact absurd hj (Nat.not_lt_zero _)
    · exact ⟨b, off, rfl, ⟨cap, rfl⟩, dt_cells (cellsG_below hc hlt hW) hj⟩
  obtain ⟨bo, cb, hvb⟩ := rdG_shape hb
  have HX2 : Hid (∀ j, j < ys.length → ∀ W, Below w.heap.size w W → ∃ b off, bo = some ⟨b, off, none⟩ ∧ W.cell? ⟨b, off + j * 2, none⟩ = some (.int .i64 (ys.getD j dt0).1) ∧ W.cell? ⟨b, off + j * 2 + 1, none⟩ = some (.int .i64 (ys.getD j dt0).2)) := fun j hj W hW => by
    obtain ⟨b, off, _, ⟨c, h1⟩, h2⟩ := HX.out j hj W hW
    have h3 := hvb.symm.trans h1
    simp only [Value.slice.injEq] at h3
    exact ⟨b, off, h3.1, h2⟩
  have HR0 : Hid ((ys.drop 0).foldl insD l = ys.foldl insD l) := by show _ = _; rw [List.drop_zero]
  have HEND : Hid (∀ H R, (ys.drop ys.length).foldl insD H = R → H = R) := fun H R h => by rw [List.drop_length] at h; exact h
  have HST : Hid (∀ k H R, k < ys.length → (ys.drop k).foldl insD H = R → (ys.drop (k + 1)).foldl insD (insD H (ys.getD k dt0)) = R) := fun k H R hk h => by
    rw [List.drop_eq_getElem_cons hk, List.foldl_cons] at h
    rw [getD_dt hk]
    exact h
  generalize ys.foldl insD l = R0 at HR0 ⊢
  obtain ⟨n, hn⟩ : ∃ n, n = ys.length := ⟨_, rfl⟩
  rw [← hn] at hl hvb HX2 HEND HST
  clear HX hb hn
  subst hvb
  have hmono : ∀ v W (H : List Dt), OwnD W B v H → OwnD W B v H := fun _ _ _ h => h
  go_enter Tryd.func36, Tryd.ntmps36
  go_wp2
  go_loopw [0, 11] (fun v0 v11 wr => ∃ (k : Nat) (H : List Dt), v11 = .int .i64 (k : Int) ∧ k ≤ n ∧ H.length + (n - k) ≤ 1048000 ∧ Hid ((ys.drop k).foldl insD H = R0) ∧ Hid (H.Pairwise (fun a b => a.1 < b.1)) ∧ OwnD wr B v0 H ∧ Below w.heap.size w wr) (fun _ k _ => n - (intOf k).toNat)
  case atStart => exact ⟨0, l, rfl, Nat.zero_le _, by omega, HR0, hs, ho, Below.refl _ _⟩
  case round =>
    rename World => wr
    obtain ⟨k, H, rfl, hk, hHl, hM, hS, hoH, hb⟩ := hrel
    clear HR0 ho hs hmono
    have hsb := hb.size
    by_cases hltk : k < n
    rotate_left
    · have he := HEND.out H R0 (by have h6 := hM.out; rw [show k = n by omega] at h6; exact h6)
      clear hM
      subst he
      go_wp2
      go_ret
      exact ⟨_, rfl, hoH, hb⟩
    obtain ⟨b, off, rfl, c0, c1⟩ := HX2.out k hltk wr hb
    have hM2 := HST.out k H R0 hltk hM.out
    obtain ⟨y, hy⟩ : ∃ y, y = ys.getD k dt0 := ⟨_, rfl⟩
    rw [← hy] at c0 c1 hM2
    obtain ⟨y1, y2⟩ := y
    simp only at c0 c1
    have hltI : (k : Int) < (n : Int) := by omega
    clear hy hM
    have HM2 := Lib.hid hM2
    have hS2 : Hid ((insD H (y1, y2)).Pairwise (fun a b => a.1 < b.1)) := insD_sorted hS.out
    have hlen := insD_len H (y1, y2)
    have ba : Below wr.heap.size wr (wr.alloc (.cells #[.int .i64 y1, .int .i64 y2] 51)) := (Below.refl _ _).alloc (Nat.le_refl _) _
    have hbx := heap_alloc_new wr (.cells #[.int .i64 y1, .int .i64 y2] 51)
    have hoA := owns_below hoH ba
    have hbA := hb.trans (ba.mono hsb)
    have hcall := placeDt_any _ H y1 _ (rdG_owns dtW hoA) (by omega) (ring_num hS.out)
    have hPOS : Hid (∀ g, g ≤ H.length → (∀ j, j < g → (H.getD j dt0).1 < y1) → (∀ j, g ≤ j → j < H.length → y1 ≤ (H.getD j dt0).1) → insD H (y1, y2) = if g < H.length ∧ (H.getD g dt0).1 = y1 then H else H.take g ++ [(y1, y2)] ++ H.drop g) := fun g hg h1 h2 => insD_pos hg h1 (fun h3 => by have := h2 g (Nat.le_refl _) h3; show ¬ _ < y1; omega)
    have hszA : (wr.alloc (.cells #[.int .i64 y1, .int .i64 y2] 51)).heap.size = wr.heap.size + 1 := by rw [World.size_alloc]
    clear hM2 hb ba hoH
    go_wp2_with fail
    refine hcall.mono ?_
    rintro e w3 ⟨g, fd, rfl, hpl, hb3⟩
    have hB3 := hbA.trans (hb3.mono (by omega))
    have ho3 := owns_below hoA hb3
    have hbx3 := (hb3.block wr.heap.size (by omega)).trans hbx
    have e0 := cell_of_row w3 wr.heap.size 0 _ _ (0, 0) hbx3
    have e1 := cell_of_row w3 wr.heap.size 1 _ _ (0, 0) hbx3
    have hs3 := hb3.size
    have hP := hPOS.out g hpl.1 hpl.2.1 hpl.2.2.1
    cases fd with
    | true =>
      obtain ⟨h1, h2⟩ := plcN_yes hpl
      rw [if_pos ⟨h1, h2⟩] at hP
      have HM3 := HM2.out
      rw [hP] at HM3
      have HM4 := Lib.hid HM3
      clear hcall hb3 hbA hoA hbx3 hbx hP hPOS HM3 HM2 hpl hS2 h1 h2 hlen
      go_wp2
      go_roundw
      case rel => exact ⟨k + 1, H, by go_num, by omega, by omega, HM4, hS, ho3, hB3⟩
      case measure => simp [intOf]; omega
    | false =>
      have hno := plcN_no (ring_num hS.out) hpl
      have hR : ∀ k, k ≤ H.length → (∀ j, j < k → (H.getD j dt0).1 < y1) → (∀ j, k ≤ j → j < H.length → y1 ≤ (H.getD j dt0).1) → insD H (y1, y2) = H.take k ++ [(y1, y2)] ++ H.drop k := fun g hg h1 h2 => by
        rw [hPOS.out g hg h1 h2, if_neg (fun h => hno g h.1 h.2)]
      have hw := withDt_any _ H y1 y2 w3 (rdG_owns dtW ho3) (by omega) (ring_num hS.out) (insD H (y1, y2)) hR
      clear hcall hb3 hbA hoA hbx3 hbx hP hPOS hpl hno hR hS
      generalize insD H (y1, y2) = H2 at HM2 hS2 hlen hw
      go_wp2_with fail
      refine hw.mono ?_
      rintro e w5 ⟨v5, rfl, ho5, hb5⟩
      have hB5 := hB3.trans (hb5.mono (by omega))
      have HO5 : Hid (OwnD w5 B v5 H2) := owns_base ho5 (by omega)
      clear hw ho5 hb5 hB3 ho3 e0 e1
      go_wp2
      go_roundw
      case rel => exact ⟨k + 1, H2, by go_num, by omega, by omega, HM2, hS2, HO5.out, hB5⟩
      case measure => simp [intOf]; omega
theorem foldl_sorted : ∀ (ys l : List Dt), l.Pairwise (fun a b => a.1 < b.1) → (ys.foldl insD l).Pairwise (fun a b => a.1 < b.1)
  | [], l, h => h
  | y :: t, l, h => foldl_sorted t (insD l y) (insD_sorted h)
theorem foldl_len : ∀ (ys l : List Dt), (ys.foldl insD l).length ≤ l.length + ys.length
  | [], l => Nat.le_refl _
  | y :: t, l => by
    have h1 := foldl_len t (insD l y)
    have h2 := (insD_len l y).1
    rw [List.foldl_cons, List.length_cons]
    omega
set_option maxHeartbeats 4000000 in
set_option maxRecDepth 100000 in
theorem implNewRing_any (va : Value) (nodes : List Int) (dots : Int) (w : World) (ha : Rd w va (cellsInt64S nodes)) (hl : nodes.length ≤ 1048576) :
    Calls Tryd.prog 12 #[va, .int .i64 dots] w (RingEnd (newT nodes dots) w) := by
  have hok := areNodes_any va nodes w ha hl
  have hla : (cellsInt64S nodes).length = nodes.length := by simp
  by_cases hN : NodesP nodes 15
  rotate_left
  · rw [decide_eq_false hN] at hok
    have e : newT nodes dots = ([], false) := by unfold newT; rw [if_neg (fun h => hN h.1)]
    rw [e]
    obtain ⟨ao, cap, hv, _⟩ := ha
    rw [hla] at hv
    subst hv
    clear e hla
    go_enter Tryd.func12, Tryd.ntmps12
    go_wp2_with fail
    refine hok.mono ?_
    rintro e w2 ⟨rfl, hb2⟩
    clear hok
    go_wp2
    go_ret2
    exact ⟨_, rfl, ownG_nil _ _ _, hb2⟩
  rw [decide_eq_true hN] at hok
  by_cases hd1 : 1 ≤ dots
  rotate_left
  · have e : newT nodes dots = ([], false) := by unfold newT; rw [if_neg (fun h => hd1 h.2.1)]
    rw [e]
    have hI : dots < 1 := by omega
    obtain ⟨ao, cap, hv, _⟩ := ha
    rw [hla] at hv
    subst hv
    clear e hla hd1
    go_enter Tryd.func12, Tryd.ntmps12
    go_wp2_with fail
    refine hok.mono ?_
    rintro e w2 ⟨rfl, hb2⟩
    clear hok
    go_wp2
    go_ret2
    exact ⟨_, rfl, ownG_nil _ _ _, hb2⟩
  have hI1 : ¬ dots < 1 := by omega
  by_cases hd8 : dots ≤ 8
  rotate_left
  · have e : newT nodes dots = ([], false) := by unfold newT; rw [if_neg (fun h => hd8 h.2.2)]
    rw [e]
    have hI : 8 < dots := by omega
    obtain ⟨ao, cap, hv, _⟩ := ha
    rw [hla] at hv
    subst hv
    clear e hla hd8
    go_enter Tryd.func12, Tryd.ntmps12
    go_wp2_with fail
    refine hok.mono ?_
    rintro e w2 ⟨rfl, hb2⟩
    clear hok
    go_wp2
    go_ret2
    exact ⟨_, rfl, ownG_nil _ _ _, hb2⟩
  have e : newT nodes dots = (ringN dots.toNat nodes [], true) := by unfold newT; rw [if_pos ⟨hN, hd1, hd8⟩]
  rw [e]
  obtain ⟨dn, hdn⟩ : ∃ dn : Nat, dots = (dn : Int) := ⟨dots.toNat, by omega⟩
  have hdt : dots.toNat = dn := by omega
  rw [hdt]
  subst hdn
  obtain ⟨ao, cap, hv, hcap, hx⟩ := ha
  rw [hla] at hv hcap hx
  have HX : Hid (∀ j, j < nodes.length → ∃ b off, ao = some ⟨b, off, none⟩ ∧ b < w.heap.size ∧ w.cell? ⟨b, off + j, none⟩ = some (.int .i64 (nodes.getD j 0))) := fun j hj => by
    obtain ⟨b, off, h1, h2, h3⟩ := hx (by intro h; rw [h] at hla; simp at hla; omega)
    exact ⟨b, off, h1, h2, (h3 j hj).trans (ints_get _ nodes j hj)⟩
  have HND : Hid (∀ j, j < nodes.length → 0 ≤ nodes.getD j 0 ∧ nodes.getD j 0 ≤ 15) := fun j hj => by
    rw [getD_int hj]
    exact hN.2.1 _ (List.getElem_mem hj)
  have HR0 : Hid (ringN dn (nodes.drop 0) [] = ringN dn nodes []) := by show _ = _; rw [List.drop_zero]
  have HEND : Hid (∀ H R, ringN dn (nodes.drop nodes.length) H = R → H = R) := fun H R h => by rw [List.drop_length] at h; exact h
  have HST : Hid (∀ k H R (x : Nat), k < nodes.length → nodes.getD k 0 = (x : Int) → ringN dn (nodes.drop k) H = R → ringN dn (nodes.drop (k + 1)) ((dotsT x dn).foldl insD H) = R) := fun k H R x hk hx h => by
    rw [List.drop_eq_getElem_cons hk] at h
    rw [← insN_dots, ← hx, getD_int hk]
    exact h
  generalize ringN dn nodes [] = R0 at HR0 ⊢
  have hN16 := hN.1.2
  obtain ⟨n, hn⟩ : ∃ n, n = nodes.length := ⟨_, rfl⟩
  rw [← hn] at hl hv HX HND HEND HST hN16
  clear hn hx hla hcap hN e hd1 hdt
  subst hv
  have hdn8 : dn ≤ 8 := by omega
  go_enter Tryd.func12, Tryd.ntmps12
  go_wp2_with fail
  refine hok.mono ?_
  rintro e w2 ⟨rfl, hb2⟩
  clear hok
  go_wp2
  go_loopw [6, 22] (fun v6 v22 wr => ∃ (k : Nat) (H : List Dt), v22 = .int .i64 (k : Int) ∧ k ≤ n ∧ H.length ≤ k * 8 ∧ Hid (ringN dn (nodes.drop k) H = R0) ∧ Hid (H.Pairwise (fun a b => a.1 < b.1)) ∧ OwnD wr w.heap.size v6 H ∧ Below w.heap.size w wr) (fun _ k _ => n - (intOf k).toNat)
  case atStart => exact ⟨0, [], rfl, Nat.zero_le _, Nat.le_refl _, HR0, List.Pairwise.nil, ownG_nil _ _ _, hb2⟩
  case round =>
    rename World => wr
    obtain ⟨k, H, rfl, hk, hHl, hM, hS, ho, hb⟩ := hrel
    clear HR0 hb2
    have hsb := hb.size
    by_cases hltk : k < n
    rotate_left
    · have he := HEND.out H R0 (by have h6 := hM.out; rw [show k = n by omega] at h6; exact h6)
      clear hM
      subst he
      go_wp2
      go_ret2
      exact ⟨_, rfl, ho, hb⟩
    obtain ⟨b, off, rfl, hlt, hc⟩ := HX.out k hltk
    have d0 := (hb.cell (p := ⟨b, off + k, none⟩) hlt).trans hc
    have hxr := HND.out k hltk
    obtain ⟨x, hx⟩ : ∃ x : Nat, nodes.getD k 0 = (x : Int) := ⟨(nodes.getD k 0).toNat, by omega⟩
    have HM2 := Lib.hid (HST.out k H R0 x hltk hx hM.out)
    rw [hx] at d0 hxr
    have hx15 : x ≤ 15 := by omega
    have hdo := fun W => dotsOf_any x dn hx15 hdn8 W
    have hle := foldl_len (dotsT x dn) H
    rw [dotsT_len] at hle
    have hS2 : Hid (((dotsT x dn).foldl insD H).Pairwise (fun a b => a.1 < b.1)) := foldl_sorted _ _ hS.out
    have hdl := dotsT_len x dn
    obtain ⟨av, cv, hvv⟩ := ownG_shape ho
    have hltI : (k : Int) < (n : Int) := by omega
    clear hM hc hx
    subst hvv
    go_wp2_with fail
    refine (hdo _).mono ?_
    rintro e w4 ⟨v4, rfl, ho4, hb4⟩
    have ho4b := owns_below ho hb4
    have hB4 := hb.trans (hb4.mono hsb)
    have hdd := dotted_any w.heap.size _ v4 H (dotsT x dn) w4 ho4b (rdG_owns dtW ho4) hB4.size (by omega) hS.out
    clear hdo ho4 hb4 ho4b ho hb d0
    generalize (dotsT x dn).foldl insD H = H2 at HM2 hle hS2 hdd
    go_wp2_with fail
    refine hdd.mono ?_
    rintro e w5 ⟨v5, rfl, ho5, hb5⟩
    have hB5 := hB4.trans (hb5.mono hB4.size)
    clear hdd hb5 hB4
    go_wp2
    go_roundw
    case rel => exact ⟨k + 1, H2, by go_num, by omega, by omega, HM2, hS2, ho5, hB5⟩
    case measure => simp [intOf]; omega
end Go.Proofs.YtjjaephhnlhnkacDoor
