/- CONTRACT: the program's branchesOver. -/
import Derived.Test.YtdiammehnakchabGrK
import Derived.Test.YtdiammehnakchabTreeI
namespace Go.Proofs.Ytdiammehnakchab
open Go.RowKit Go.Shelf

attribute [local go_sem] Oper.semAt_some
set_option linter.unusedVariables false

/-- 'make([]T, n)' within a fence -/
theorem listIn_make_full {G : Fence} {n : Nat} {P : Program} (w : World) {ops : Array Oper} {rest : List Oper} {o : Oper} {a : Act} {Q : Exit → Act → World → Prop}
    (hg : o.guard = none) (l c : Operand) (t : TypeId) (hop : o.op = Op.makeSlice t l c)
    (base : Nat) (e : TypeId) (i : TypeInfo) (z : Value) (size : Nat) (h1 : P.underlying t = some (.slice e)) (h2 : P.info? e = some i) (h3 : i.zero = some z) (h4 : i.size = size)
    (kl kc : IntKind) (L C : Int) (m : Nat) (hl : a.eval l = .int kl L) (hc : a.eval c = .int kc C) (hL : L = (m : Int)) (hC : C = (m : Int)) (b2 : i.bytes * m ≤ 281474976710656) (b3 : m ≤ maxLen) (b4 : base ≤ w.heap.size)
    (hK : ∀ w', w'.ownsRow base e size (.slice (some ⟨w.heap.size, 0, none⟩) m m) m (madeCells z.cells (m * size)).toList → w.grownBy w' none → wpListIn G n P ops Q rest (a.put o.dst (.slice (some ⟨w.heap.size, 0, none⟩) m m)) w') :
    wpListIn G n P ops Q (o :: rest) a w := by
  refine wpListIn_plain hg fun K hK' => ?_
  obtain ⟨w', hrun, r1, r2⟩ := run_make_full (P := P) w base t e i z size h1 h2 h3 h4 kl kc m b2 b3 b4
  subst hL
  subst hC
  unfold Oper.wpIn
  refine ⟨?_, ?_⟩
  · simp [Oper.about, hop]
  · rw [Oper.semAt_plain G _ _ (by rw [hop]; intro c hc'; cases hc')]
    simp [execOp, hop, hl, hc, hrun, Result.andThen]
    exact hK' _ _ (hK w' r1 r2)
/-- append, as one step of a region that draws, within a fence -/
theorem step_append_in {G : Fence} {n : Nat} {P : Program} {ops : Array Oper} {o : Oper} {a : Act} {w : World} {K : Act → World → Prop} {Q : Exit → Act → World → Prop} {E : Prop}
    (hg : o.guard = none) (s x : Operand) (t : TypeId) (hop : o.op = Op.call { callee := Callee.builtin Builtin.append, args := #[s, x], argTypes := #[t, t] })
    (base : Nat) (e : TypeId) (i : TypeInfo) (z : Value) (size bytes : Nat) (h1 : P.underlying t = some (.slice e)) (h2 : P.info? e = some i) (h3 : i.zero = some z) (h4 : i.size = size) (h5 : i.bytes = bytes) (h6 : z.cells.size = size) (h7 : 0 < size)
    (v : Value) (k : Nat) (xs : List Value) (hs : a.eval s = v) (hown : w.ownsRow base e size v k xs)
    (ad : Addr) (m c : Nat) (news : List Value) (hx : a.eval x = .slice (some ad) m c) (hn : news.length = m * size) (hc : ∀ j u, news[j]? = some u → w.cell? (ad.add j) = some u) (h1c : ∀ u ∈ news, u.oneCell' = true)
    (b1 : k + m ≤ maxLen) (b2 : (k + m) * bytes ≤ 140737488355328) (hbase : base ≤ w.heap.size)
    (hK : ∀ v' w', w'.ownsRow base e size v' (k + m) (xs ++ news) → w.grownBy w' v.ownBlock → K (a.put o.dst v') w') :
    if Region.wanted o (yielded ops a.tmps) = true then Oper.wpIn G n P o a w K Q else E := by
  have hw : Region.wanted o (yielded ops a.tmps) = true := by simp [Region.wanted, hg]
  rw [if_pos hw]
  obtain ⟨v', w', hrun, r1, r2, _⟩ := run_append_own (P := P) w base t o.type e i z size bytes h1 h2 h3 h4 h5 h6 h7 v k xs hown ad m c news hn hc h1c b1 b2 hbase
  unfold Oper.wpIn
  refine ⟨?_, ?_⟩
  · simp [Oper.about, hop, resolve, Target.leads, Sem.run_pure]
  · rw [Oper.semAt_plain G _ _ (by rw [hop]; intro c hc'; cases hc')]
    simp [execOp, hop, resolve, invoke, builtin, hs, hx, hrun, Result.andThen]
    exact hK _ _ r1 r2
/-- the branch of the four from 4 x on -/
def brAt (ds : List Int) (x : Nat) : ByteArray := brT ((ds.drop (4 * x)).take 4)
theorem brAt_all (ds : List Int) : (List.range ((ds.length + 3) / 4)).map (brAt ds) = upT ds := by
  apply List.ext_getElem?
  intro k
  by_cases hk : 4 * k < ds.length
  · rw [upT_at hk, List.getElem?_map, List.getElem?_range (by omega)]
    rfl
  · rw [List.getElem?_eq_none (by simp; omega), List.getElem?_eq_none (by rw [upT_len]; omega)]
theorem numD_step (xs : List Int) (n k : Nat) (h : k < xs.length) (hn : k < n) : ((cellsInt64S (xs.take k ++ List.replicate (n - k) (0 : Int))).set k (.int .i64 (xs.getD k 0))) = cellsInt64S (xs.take (k + 1) ++ List.replicate (n - (k + 1)) (0 : Int)) := by
  have e : (cellsInt64S (xs.take k)).length = k := by simp; omega
  have e1 : n - k = (n - (k + 1)) + 1 := by omega
  have e2 : cellsInt64S (xs.take k ++ List.replicate (n - k) (0 : Int)) = cellsInt64S (xs.take k) ++ (Value.int .i64 0 :: cellsInt64S (List.replicate (n - (k + 1)) (0 : Int))) := by rw [e1, List.replicate_succ, cellsInt64S, List.map_append, List.map_cons]
  rw [e2, List.set_append_right _ _ (by omega), e, Nat.sub_self, List.set_cons_zero, take_snoc xs 0 k h]
  simp
/-- what holds at each round's head -/
def BrI (ds : List Int) (n : Nat) (b off cap : Nat) (w0 : World) (pre : List (Fours n)) (W : World) : Prop :=
  (∃ v, Boxed W w0.heap.size 44 v ∧ W.ownsRow w0.heap.size 9 1 v pre.length (pre.map fun x => Value.string (brAt ds x.1)) ∧ True) ∧
    Boxed W (w0.heap.size + 1) 44 (.slice (some ⟨b, off, none⟩) n cap) ∧ Boxed W (w0.heap.size + 1 + 1) 3 (.int .i64 4) ∧ Below w0.heap.size w0 W
theorem brI_from (ds : List Int) (n b off cap : Nat) (w0 : World) (B : Nat) (hB : w0.heap.size ≤ B) : OwnFrom B (BrI ds n b off cap w0) :=
  OwnFrom.and (Own.from (holdsRow_own w0.heap.size w0.heap.size 44 9 1 (fun pre : List (Fours n) => pre.length) (fun pre => pre.map fun x => Value.string (brAt ds x.1)) (fun _ _ => True)) _)
    (OwnFrom.and (Own.from (boxed_own _ 44 (fun _ => .slice (some ⟨b, off, none⟩) n cap)) _) (OwnFrom.and (Own.from (boxed_own _ 3 (fun _ => .int .i64 4)) _) (ownFrom_below (Nat.le_refl _) hB)))
/-- a round's end -/
theorem brI_fin {ds : List Int} {n b off cap : Nat} {w0 : World} {pre : List (Fours n)} {x : Fours n} {W W2 W3 : World} {v v' : Value} {tmp : Obj} (B : Nat)
    (hbx : Boxed W w0.heap.size 44 v) (hrow : W.ownsRow w0.heap.size 9 1 v pre.length (pre.map fun x => Value.string (brAt ds x.1)))
    (hs : Boxed W (w0.heap.size + 1) 44 (.slice (some ⟨b, off, none⟩) n cap)) (hn : Boxed W (w0.heap.size + 1 + 1) 3 (.int .i64 4)) (hb : Below w0.heap.size w0 W)
    (h2 : Below W.heap.size W W2) (ho : W3.ownsRow w0.heap.size 9 1 v' (pre.length + 1) ((pre.map fun x => Value.string (brAt ds x.1)) ++ [.string (brAt ds x.1)])) (hg : (W2.alloc tmp).grownBy W3 v.ownBlock) :
    KeepsFrom B W (W3.setCell ⟨w0.heap.size, 0, none⟩ v') ∧ KeepP (w0.heap.size + 1) (w0.heap.size + 1 + 1) W (W3.setCell ⟨w0.heap.size, 0, none⟩ v') ∧ BrI ds n b off cap w0 (pre ++ [x]) (W3.setCell ⟨w0.heap.size, 0, none⟩ v') := by
  have hg2 := grown_of_below h2
  have hbx2 := hbx.kept hg2 (by simp)
  have hrow2 := owns_below hrow h2
  have hs2 := hs.kept hg2 (by simp)
  have hn2 := hn.kept hg2 (by simp)
  obtain ⟨_, e2, e3, e4, e5⟩ := hbx2.appended (by decide) hrow2 (by have := hb.size; have := h2.size; omega) (Nat.le_refl _) ho hg
  have hs3 : Boxed (W3.setCell ⟨w0.heap.size, 0, none⟩ v') (w0.heap.size + 1) 44 (.slice (some ⟨b, off, none⟩) n cap) := (((hs2.alloc tmp).kept hg (hs2.not_row (by decide) hrow2)).other (by omega) v')
  have hn3 : Boxed (W3.setCell ⟨w0.heap.size, 0, none⟩ v') (w0.heap.size + 1 + 1) 3 (.int .i64 4) := (((hn2.alloc tmp).kept hg (hn2.not_row (by decide) hrow2)).other (by omega) v')
  refine ⟨((KeepsOthers.of_grownBy hg2 (fun j o ej => by cases ej)).trans e4).from B, ?_, ⟨v', e2, by simpa using e3, trivial⟩, hs3, hn3, (hb.trans (h2.mono hb.size)).trans e5⟩
  rintro k o (rfl | rfl) hk _
  · rw [show W.heap[w0.heap.size + 1]? = _ from hs] at hk
    rw [← hk]
    exact hs3
  · rw [show W.heap[w0.heap.size + 2]? = _ from hn] at hk
    rw [← hk]
    exact hn3
set_option maxRecDepth 100000 in
set_option maxHeartbeats 4000000 in
theorem branchesOver_any (va : Value) (A : List ByteArray) (w : World) (ha : Rd w va (cellsS A)) (h1 : 1 ≤ A.length) (hl : A.length ≤ 64) (hs : ∀ s ∈ A, s.size ≤ 1048576) :
    Calls Try.prog 135 #[va] w fun e w' => ∃ v, e = .returned v ∧ w'.ownsRow w.heap.size 9 1 v (upT (dgs A)).length (cellsS (upT (dgs A))) ∧ Below w.heap.size w w' := by
  obtain ⟨i0, hi, hz0, hz1, hz2⟩ := info_parts Try.infoS
  obtain ⟨j0, hj, hy0, hy1, hy2⟩ := info_parts Try.info64
  have hla : (cellsS A).length = A.length := by simp
  have HS : Hid (∀ k, (A.getD k ByteArray.empty).size ≤ 1048576) := getD_size hs
  have hdl : (dgs A).length = A.length := by simp [dgs]
  have hall := brAt_all (dgs A)
  rw [hdl] at hall
  have HALL := Lib.hid hall
  have hul := upT_len (dgs A)
  rw [hdl] at hul
  have HUL := Lib.hid hul
  have hdg : ∀ k, k < A.length → (dgs A).getD k 0 = digest (A.getD k ByteArray.empty) := fun k hk => by simp [dgs, List.getD, hk]
  have HDG := Lib.hid hdg
  rcases rd_cases ha with ⟨h0, _⟩ | ⟨hp, b, off, cap, rfl, hcap, hlt, hc⟩
  · have hx : A = [] := by simpa using h0
    subst hx
    simp at h1
  rw [hla] at hc hp hcap ⊢
  have HA : Hid (∀ j, j < A.length → w.cell? ⟨b, off + j, none⟩ = some (.string (A.getD j ByteArray.empty))) := fun j hj => (hc j hj).trans (strs_get A j hj)
  obtain ⟨n, hn⟩ : ∃ n, n = A.length := ⟨_, rfl⟩
  have HN := Lib.hid hn
  rw [← hn] at h1 hl hp hcap HA HALL HUL HDG ⊢
  generalize upT (dgs A) = U at HALL HUL ⊢
  obtain ⟨ds, hds⟩ : ∃ ds, ds = dgs A := ⟨_, rfl⟩
  have HDL : Hid (ds.length = n) := by show _ = _; rw [hds, hdl, ← hn]
  rw [← hds] at HALL HDG
  clear hc ha hs hla hdl hall hul hdg hn hds
  refine (callsIn_wide (n := 4)).1 ?_
  refine callsIn_of_wp_marks Try.func135 rfl trivial ?_ rfl
  simp only [Try.ntmps135, List.size_toArray, List.length_cons, List.length_nil, Nat.reduceAdd, Nat.reduceSub, Array.replicate_succ, Array.replicate_zero, List.push_toArray, List.append_toArray, List.nil_append, List.cons_append]
  gi_wp2_with (first
    | (refine ⟨trivial, ?_⟩; gi_at_call 169; refine (callsIn_wide.2 (chunk_in (some ⟨b, off, none⟩) n cap _)).mono ?_; rintro e w2 ⟨rfl, hw2⟩; replace hw2 := hw2.symm; subst hw2))
  have bL := Boxed.new w 44 (.slice none 0 0)
  have bS := Boxed.new (w.alloc (.cells #[.slice none 0 0] 44)) 44 (.slice (some ⟨b, off, none⟩) n cap)
  have bN := Boxed.new ((w.alloc (.cells #[.slice none 0 0] 44)).alloc (.cells #[.slice (some ⟨b, off, none⟩) n cap] 44)) 3 (.int .i64 4)
  rw [World.size_alloc] at bS
  rw [World.size_alloc, World.size_alloc] at bN
  have hB0 : Below w.heap.size w (((w.alloc (.cells #[.slice none 0 0] 44)).alloc (.cells #[.slice (some ⟨b, off, none⟩) n cap] 44)).alloc (.cells #[.int .i64 4] 3)) := (((Below.refl _ w).alloc (Nat.le_refl _) _).alloc (by simp) _).alloc (by simp; omega) _
  have hz3 : (((w.alloc (.cells #[.slice none 0 0] 44)).alloc (.cells #[.slice (some ⟨b, off, none⟩) n cap] 44)).alloc (.cells #[.int .i64 4] 3)).heap.size = w.heap.size + 3 := by simp
  have bL2 := (bL.alloc (.cells #[.slice (some ⟨b, off, none⟩) n cap] 44)).alloc (.cells #[.int .i64 4] 3)
  have bS2 := bS.alloc (.cells #[.int .i64 4] 3)
  generalize (((w.alloc (.cells #[.slice none 0 0] 44)).alloc (.cells #[.slice (some ⟨b, off, none⟩) n cap] 44)).alloc (.cells #[.int .i64 4] 3)) = w3 at bL2 bS2 bN hB0 hz3 ⊢
  have hbB : ∀ v : Value, (∃ u, v = u) := fun v => ⟨v, rfl⟩
  refine wpIn_rangeFunc_ownG rfl (by omega) (gf := 191) (lb := #[.pointer (some ⟨w.heap.size + 1, 0, none⟩), .pointer (some ⟨w.heap.size + 1 + 1, 0, none⟩)]) rfl trivial (enters_of Try.func191 (by kernel_rfl) rfl)
    (chunk_stops 3 (by omega) (w.heap.size + 1) (w.heap.size + 1 + 1) b off n cap h1 (by omega) hcap w3 bS2 bN) (fun h k => h.trans k) (fun W l o o' _ h hc _ => keepP_put _ _ W l o o' h hc) (Below.refl _ _) (fun _ => rfl)
    (BrI ds n b off cap w)
    (fun _ _ _ => False)
    (brI_from ds n b off cap w _ (by omega))
    (fun _ _ _ _ _ hs _ _ => hs)
    ⟨⟨_, bL2, World.ownsRow_nil _ _ _ _, trivial⟩, bS2, bN, hB0⟩
    (fun x => { tmps := #[.slice (some ⟨b, off, none⟩) n cap, undef, .slice none 0 0, .pointer (some ⟨w.heap.size, 0, none⟩), fourV b off n x.1, undef, undef, undef, .slice (some ⟨b, off, none⟩) n cap,
      .func (.func 191) #[] #[.pointer (some ⟨w.heap.size + 1, 0, none⟩), .pointer (some ⟨w.heap.size + 1 + 1, 0, none⟩)], fourV b off n x.1, undef, undef, undef, undef, undef, undef, undef, undef, undef, undef, undef, undef, undef, undef, undef, undef, undef, undef, undef, undef, undef, undef], defers := [] }) ?assign ?body ?done ?stop
  case assign =>
    intro l x W K hK
    gi_wp2
    exact hK
  case body =>
    rintro l pre x W ⟨⟨v, hv, hrow, _⟩, hbs, hbn, hB⟩ hlt2
    have hx4 := x.2
    obtain ⟨q, hq⟩ : ∃ q : Nat, q = min 4 (n - 4 * x.1) := ⟨_, rfl⟩
    have hq1 : 1 ≤ q := by omega
    have hq4 : q ≤ 4 := by omega
    have hqn : 4 * x.1 + q ≤ n := by omega
    have hfv : fourV b off n x.1 = .slice (some ⟨b, off + 4 * x.1, none⟩) q q := by unfold fourV; rw [← hq]
    rw [hfv]
    obtain ⟨es, hes⟩ : ∃ es, es = (ds.drop (4 * x.1)).take 4 := ⟨_, rfl⟩
    have HBR : Hid (brAt ds x.1 = brT es) := by show _ = _; rw [hes]; rfl
    have hel : es.length = q := by rw [hes, List.length_take, List.length_drop, HDL.out]; omega
    have HED : Hid (∀ k, k < q → es.getD k 0 = digest (A.getD (4 * x.1 + k) ByteArray.empty)) := fun k hk => by
      rw [← HDG.out (4 * x.1 + k) (by omega), hes]
      simp [List.getD, show k < 4 by omega]
    have HCA : Hid (∀ k, k < q → W.cell? ⟨b, off + 4 * x.1 + k, none⟩ = some (.string (A.getD (4 * x.1 + k) ByteArray.empty))) := fun k hk => by
      have h := (hB.cell (p := ⟨b, off + (4 * x.1 + k), none⟩) hlt).trans (HA.out (4 * x.1 + k) (by omega))
      rwa [← Nat.add_assoc] at h
    have hsW := hB.size
    have HFI : Hid (∀ W2 W3 v' tmp, Below W.heap.size W W2 → W3.ownsRow w.heap.size 9 1 v' (pre.length + 1) ((pre.map fun x => Value.string (brAt ds x.1)) ++ [.string (brT es)]) → (W2.alloc tmp).grownBy W3 v.ownBlock →
        KeepsFrom w3.heap.size W (W3.setCell ⟨w.heap.size, 0, none⟩ v') ∧ KeepP (w.heap.size + 1) (w.heap.size + 1 + 1) W (W3.setCell ⟨w.heap.size, 0, none⟩ v') ∧ BrI ds n b off cap w (pre ++ [x]) (W3.setCell ⟨w.heap.size, 0, none⟩ v')) := fun W2 W3 v' tmp h2 ho hg => brI_fin w3.heap.size hv hrow hbs hbn hB h2 (by rw [HBR.out]; exact ho) hg
    have hown := hrow
    obtain ⟨PR, hPR⟩ : ∃ PR, PR = pre.map fun x => Value.string (brAt ds x.1) := ⟨_, rfl⟩
    rw [← hPR] at hown HFI
    obtain ⟨pl, hpl⟩ : ∃ pl, pl = pre.length := ⟨_, rfl⟩
    rw [← hpl] at hown HFI hlt2
    have HROW := Lib.hid hown
    have HV := Lib.hid hv
    have hbw : b < W.heap.size := by omega
    obtain ⟨o4, ho4⟩ : ∃ o4, o4 = off + 4 * x.1 := ⟨_, rfl⟩
    rw [← ho4] at HCA ⊢
    have hHA : Hid (∀ k, (A.getD (4 * x.1 + k) ByteArray.empty).size ≤ 1048576) := fun k => HS.out _
    clear hbs hbn hrow hown hv hPR hpl hes hfv hq ho4 hx4 hqn bL bS bL2 bS2 bN hB0
    gi_wp2_with (gi_at_make; refine listIn_make_full _ rfl _ _ 28 rfl W.heap.size 2 j0 (.int .i64 0) 1 Try.underlying28 hj hy0 hy1 _ _ _ _ q rfl rfl rfl rfl (by rw [hy2]; omega) (by unfold maxLen; omega) (Nat.le_refl _) ?_; intro w0 hmade hg0)
    have hb0 : Below W.heap.size W w0 := (Below.refl _ _).grown hg0 (Nat.le_refl _) (fun k hk => by cases hk)
    have hm2 : w0.ownsRow W.heap.size 2 1 (.slice (some ⟨W.heap.size, 0, none⟩) q q) q (cellsInt64S (es.take 0 ++ List.replicate (q - 0) (0 : Int))) := by
      have h : w0.ownsRow W.heap.size 2 1 (.slice (some ⟨W.heap.size, 0, none⟩) q q) q (madeCells #[Value.int .i64 0] (q * 1)).toList := hmade
      rw [toList_madeCells_one] at h
      simpa using h
    clear hg0 hmade
    gi_loopw [16] (fun i wr => ∃ k : Nat, k ≤ q ∧ i = .int .i64 k ∧ wr.ownsRow W.heap.size 2 1 (.slice (some ⟨W.heap.size, 0, none⟩) q q) q (cellsInt64S (es.take k ++ List.replicate (q - k) (0 : Int))) ∧ Below W.heap.size W wr) (fun i _ => q - (intOf i).toNat)
    case atStart => exact ⟨0, Nat.zero_le _, rfl, hm2, hb0⟩
    case round =>
      rename World => wr
      obtain ⟨k, hk, rfl, ho, hb⟩ := hrel
      clear hb0 hm2
      by_cases hltk : k < q
      · have hc : wr.cell? ⟨W.heap.size, k, none⟩ = some (.int .i64 ((es.take k ++ List.replicate (q - k) (0 : Int)).getD k 0)) := (ho.cellAt k (by omega)).trans (ints_get _ _ k (by simp; omega))
        have hf := ho.frozenAt k
        have hst := ho.stored k (.int .i64 (es.getD k 0))
        rw [numD_step es q k (by omega) hltk] at hst
        obtain ⟨hs1, hs2⟩ := hst
        have hca : wr.cell? ⟨b, o4 + k, none⟩ = some (.string (A.getD (4 * x.1 + k) ByteArray.empty)) := (hb.cell (p := ⟨b, o4 + k, none⟩) hbw).trans (HCA.out k hltk)
        have hsz := hHA.out k
        have hed := HED.out k hltk
        obtain ⟨u, hu⟩ : ∃ u, u = Value.int .i64 ((es.take k ++ List.replicate (q - k) (0 : Int)).getD k 0) := ⟨_, rfl⟩
        rw [← hu] at hc
        obtain ⟨y, hyy⟩ : ∃ y, y = A.getD (4 * x.1 + k) ByteArray.empty := ⟨_, rfl⟩
        rw [← hyy] at hca hsz hed
        rw [hed] at hs1 hs2
        have hb2 : Below W.heap.size W (wr.setCell ⟨W.heap.size, k, none⟩ (.int .i64 (digest y))) := hb.setCell (Nat.le_refl _) _
        have hne : ¬ W.heap.size = b := by omega
        have hcall := implDigest_any y wr (by omega)
        obtain ⟨dy, hdy⟩ : ∃ dy, dy = digest y := ⟨_, rfl⟩
        rw [← hdy] at hcall hs1 hs2 hb2
        clear hu hyy ho hdy hed
        gi_wp2_with (refine ⟨trivial, ?_⟩; gi_at_call 61; refine (CallsIn.inRound l (callsIn_wide.2 hcall)).mono ?_; rintro e w' ⟨rfl, hw'⟩; replace hw' := hw'.symm; subst hw')
        go_roundw
        case rel => exact ⟨k + 1, by omega, by go_num, hs1, hb2⟩
        case measure => simp [intOf]; omega
      · obtain rfl : k = q := by omega
        rw [List.take_of_length_le (by omega), Nat.sub_self, List.replicate_zero, List.append_nil] at ho
        have hel4 : es.length ≤ 140737488355328 := by omega
        clear HED HCA hHA hq4
        gi_wp2
        have hmx : Try.prog.follows .mixedOrders = true := by kernel_rfl
        have hbr := fun (X : World) (h : Below wr.heap.size wr X) => implBranch_any (.slice (some ⟨W.heap.size, 0, none⟩) k k) es X (rd_below (rd_owns ho) h) hel4
        have hcv : ∀ X, Below wr.heap.size wr X → X.cell? ⟨w.heap.size, 0, none⟩ = some v := fun X h => by
          have hbb := hb.trans (h.mono hb.size)
          exact (hbb.cell (p := ⟨w.heap.size, 0, none⟩) HV.out.lt).trans HV.out.cell
        have hB1 : Below wr.heap.size wr wr.drew := (Below.refl _ _).drew
        refine wpIn_region_any hmx ?_
        change wpAnyIn _ _ _ _ _ _ _ _ _ (World.drew _)
        generalize wr.drew = wd at hB1 ⊢
        have hrow6 : ∀ X, Below wr.heap.size wr X → (X.alloc (.cells #[.string (brT es)] 9)).ownsRow w.heap.size 9 1 v pl PR := fun X h => (owns_below HROW.out (hb.trans (h.mono hb.size))).alloc _
        have hsz6 : ∀ X, Below wr.heap.size wr X → w.heap.size ≤ (X.alloc (.cells #[.string (brT es)] 9)).heap.size := fun X h => by
          rw [World.size_alloc]
          have h1 := h.size
          have h2 := hb.size
          omega
        have hbox7 : ∀ X Y, Below wr.heap.size wr X → (X.alloc (.cells #[.string (brT es)] 9)).grownBy Y v.ownBlock → Boxed Y w.heap.size 44 v := fun X Y h hg => by
          have h1 := hb.trans (h.mono hb.size)
          have h2 := HV.out.kept (grown_of_below h1) (by simp)
          have h3 := owns_below HROW.out h1
          exact (h2.alloc _).kept hg (h2.not_row (by decide) h3)
        refine wpAnyIn_ready (rs := [0, 1]) (by kernel_rfl) (by simp) ?_
        refine AllReadyIn.cons rfl (fun K hK => ?_) (AllReadyIn.cons rfl (fun K hK => ?_) AllReadyIn.nil)
        ·
          have c0 := hcv _ hB1
          go_simp
          refine hK _ _ ?_
          clear hK K c0
          refine wpAnyIn_ready (rs := [1]) (by kernel_rfl) (by simp) ?_
          refine AllReadyIn.cons rfl (fun K hK => ?_) AllReadyIn.nil
          ·
            go_simp
            refine hK _ _ ?_
            clear hK K
            refine wpAnyIn_ready (rs := [2]) (by kernel_rfl) (by simp) ?_
            refine AllReadyIn.cons rfl (fun K hK => ?_) AllReadyIn.nil
            ·
              go_simp
              refine ⟨trivial, ?_⟩; refine (CallsIn.inRound l (callsIn_wide.2 (hbr _ hB1))).mono ?_; rintro e w5 ⟨rfl, hb5⟩; refine hK _ _ ?_; clear hK K
              have hB5 : Below wr.heap.size wr w5 := hB1.trans (hb5.mono hB1.size)
              have hB6 : Below wr.heap.size wr (w5.alloc (.cells #[.string (brT es)] 9)) := hB5.alloc hB5.size _
              refine wpAnyIn_ready (rs := [3]) (by kernel_rfl) (by simp) ?_
              refine AllReadyIn.cons rfl (fun K hK => ?_) AllReadyIn.nil
              ·
                go_simp
                refine hK _ _ ?_
                clear hK K
                refine wpAnyIn_ready (rs := [4]) (by kernel_rfl) (by simp) ?_
                refine AllReadyIn.cons rfl (fun K hK => ?_) AllReadyIn.nil
                ·
                  refine step_append_in rfl (.tmp 27) (.tmp 30) 44 rfl w.heap.size 9 i0 (.string ⟨#[]⟩) 1 16 Try.underlying44 hi hz0 hz1 hz2 rfl (by decide) v pl PR (by simp [Act.eval]) (hrow6 _ hB5) ⟨w5.heap.size, 0, none⟩ 1 1 [.string (brT es)] (by simp [Act.eval]) rfl (one_text w5 (brT es) _) (fun u hu => by rw [List.mem_singleton.1 hu]; rfl) (by unfold maxLen; omega) (by omega) (hsz6 _ hB5) ?_
                  intro v7 w7 ho7 hg7
                  obtain ⟨g7, cap7, rfl⟩ := ownsRow_succ ho7
                  have hbx7 := hbox7 _ _ hB5 hg7
                  have c7 := hbx7.cell
                  have f7 := hbx7.frozen
                  refine hK _ _ ?_
                  clear hK K
                  refine wpAnyIn_ready (rs := [5]) (by kernel_rfl) (by simp) ?_
                  refine AllReadyIn.cons rfl (fun K hK => ?_) AllReadyIn.nil
                  ·
                    go_simp
                    refine hK _ _ ?_
                    clear hK K
                    refine wpAnyIn_done (by kernel_rfl) ?_ _
                    exact HFI.out _ _ _ _ (hb.trans (hB5.mono hb.size)) ho7 hg7
        ·
          go_simp
          refine hK _ _ ?_
          clear hK K
          refine wpAnyIn_ready (rs := [0, 2]) (by kernel_rfl) (by simp) ?_
          refine AllReadyIn.cons rfl (fun K hK => ?_) (AllReadyIn.cons rfl (fun K hK => ?_) AllReadyIn.nil)
          ·
            have c0 := hcv _ hB1
            go_simp
            refine hK _ _ ?_
            clear hK K c0
            refine wpAnyIn_ready (rs := [2]) (by kernel_rfl) (by simp) ?_
            refine AllReadyIn.cons rfl (fun K hK => ?_) AllReadyIn.nil
            ·
              go_simp
              refine ⟨trivial, ?_⟩; refine (CallsIn.inRound l (callsIn_wide.2 (hbr _ hB1))).mono ?_; rintro e w5 ⟨rfl, hb5⟩; refine hK _ _ ?_; clear hK K
              have hB5 : Below wr.heap.size wr w5 := hB1.trans (hb5.mono hB1.size)
              have hB6 : Below wr.heap.size wr (w5.alloc (.cells #[.string (brT es)] 9)) := hB5.alloc hB5.size _
              refine wpAnyIn_ready (rs := [3]) (by kernel_rfl) (by simp) ?_
              refine AllReadyIn.cons rfl (fun K hK => ?_) AllReadyIn.nil
              ·
                go_simp
                refine hK _ _ ?_
                clear hK K
                refine wpAnyIn_ready (rs := [4]) (by kernel_rfl) (by simp) ?_
                refine AllReadyIn.cons rfl (fun K hK => ?_) AllReadyIn.nil
                ·
                  refine step_append_in rfl (.tmp 27) (.tmp 30) 44 rfl w.heap.size 9 i0 (.string ⟨#[]⟩) 1 16 Try.underlying44 hi hz0 hz1 hz2 rfl (by decide) v pl PR (by simp [Act.eval]) (hrow6 _ hB5) ⟨w5.heap.size, 0, none⟩ 1 1 [.string (brT es)] (by simp [Act.eval]) rfl (one_text w5 (brT es) _) (fun u hu => by rw [List.mem_singleton.1 hu]; rfl) (by unfold maxLen; omega) (by omega) (hsz6 _ hB5) ?_
                  intro v7 w7 ho7 hg7
                  obtain ⟨g7, cap7, rfl⟩ := ownsRow_succ ho7
                  have hbx7 := hbox7 _ _ hB5 hg7
                  have c7 := hbx7.cell
                  have f7 := hbx7.frozen
                  refine hK _ _ ?_
                  clear hK K
                  refine wpAnyIn_ready (rs := [5]) (by kernel_rfl) (by simp) ?_
                  refine AllReadyIn.cons rfl (fun K hK => ?_) AllReadyIn.nil
                  ·
                    go_simp
                    refine hK _ _ ?_
                    clear hK K
                    refine wpAnyIn_done (by kernel_rfl) ?_ _
                    exact HFI.out _ _ _ _ (hb.trans (hB5.mono hb.size)) ho7 hg7
          ·
            go_simp
            refine ⟨trivial, ?_⟩; refine (CallsIn.inRound l (callsIn_wide.2 (hbr _ hB1))).mono ?_; rintro e w5 ⟨rfl, hb5⟩; refine hK _ _ ?_; clear hK K
            have hB5 : Below wr.heap.size wr w5 := hB1.trans (hb5.mono hB1.size)
            have hB6 : Below wr.heap.size wr (w5.alloc (.cells #[.string (brT es)] 9)) := hB5.alloc hB5.size _
            refine wpAnyIn_ready (rs := [0, 3]) (by kernel_rfl) (by simp) ?_
            refine AllReadyIn.cons rfl (fun K hK => ?_) (AllReadyIn.cons rfl (fun K hK => ?_) AllReadyIn.nil)
            ·
              have c0 := hcv _ hB5
              go_simp
              refine hK _ _ ?_
              clear hK K c0
              refine wpAnyIn_ready (rs := [3]) (by kernel_rfl) (by simp) ?_
              refine AllReadyIn.cons rfl (fun K hK => ?_) AllReadyIn.nil
              ·
                go_simp
                refine hK _ _ ?_
                clear hK K
                refine wpAnyIn_ready (rs := [4]) (by kernel_rfl) (by simp) ?_
                refine AllReadyIn.cons rfl (fun K hK => ?_) AllReadyIn.nil
                ·
                  refine step_append_in rfl (.tmp 27) (.tmp 30) 44 rfl w.heap.size 9 i0 (.string ⟨#[]⟩) 1 16 Try.underlying44 hi hz0 hz1 hz2 rfl (by decide) v pl PR (by simp [Act.eval]) (hrow6 _ hB5) ⟨w5.heap.size, 0, none⟩ 1 1 [.string (brT es)] (by simp [Act.eval]) rfl (one_text w5 (brT es) _) (fun u hu => by rw [List.mem_singleton.1 hu]; rfl) (by unfold maxLen; omega) (by omega) (hsz6 _ hB5) ?_
                  intro v7 w7 ho7 hg7
                  obtain ⟨g7, cap7, rfl⟩ := ownsRow_succ ho7
                  have hbx7 := hbox7 _ _ hB5 hg7
                  have c7 := hbx7.cell
                  have f7 := hbx7.frozen
                  refine hK _ _ ?_
                  clear hK K
                  refine wpAnyIn_ready (rs := [5]) (by kernel_rfl) (by simp) ?_
                  refine AllReadyIn.cons rfl (fun K hK => ?_) AllReadyIn.nil
                  ·
                    go_simp
                    refine hK _ _ ?_
                    clear hK K
                    refine wpAnyIn_done (by kernel_rfl) ?_ _
                    exact HFI.out _ _ _ _ (hb.trans (hB5.mono hb.size)) ho7 hg7
            ·
              go_simp
              refine hK _ _ ?_
              clear hK K
              refine wpAnyIn_ready (rs := [0]) (by kernel_rfl) (by simp) ?_
              refine AllReadyIn.cons rfl (fun K hK => ?_) AllReadyIn.nil
              ·
                have c0 := hcv _ hB6
                go_simp
                refine hK _ _ ?_
                clear hK K c0
                refine wpAnyIn_ready (rs := [4]) (by kernel_rfl) (by simp) ?_
                refine AllReadyIn.cons rfl (fun K hK => ?_) AllReadyIn.nil
                ·
                  refine step_append_in rfl (.tmp 27) (.tmp 30) 44 rfl w.heap.size 9 i0 (.string ⟨#[]⟩) 1 16 Try.underlying44 hi hz0 hz1 hz2 rfl (by decide) v pl PR (by simp [Act.eval]) (hrow6 _ hB5) ⟨w5.heap.size, 0, none⟩ 1 1 [.string (brT es)] (by simp [Act.eval]) rfl (one_text w5 (brT es) _) (fun u hu => by rw [List.mem_singleton.1 hu]; rfl) (by unfold maxLen; omega) (by omega) (hsz6 _ hB5) ?_
                  intro v7 w7 ho7 hg7
                  obtain ⟨g7, cap7, rfl⟩ := ownsRow_succ ho7
                  have hbx7 := hbox7 _ _ hB5 hg7
                  have c7 := hbx7.cell
                  have f7 := hbx7.frozen
                  refine hK _ _ ?_
                  clear hK K
                  refine wpAnyIn_ready (rs := [5]) (by kernel_rfl) (by simp) ?_
                  refine AllReadyIn.cons rfl (fun K hK => ?_) AllReadyIn.nil
                  ·
                    go_simp
                    refine hK _ _ ?_
                    clear hK K
                    refine wpAnyIn_done (by kernel_rfl) ?_ _
                    exact HFI.out _ _ _ _ (hb.trans (hB5.mono hb.size)) ho7 hg7
  case done =>
    rintro D ys W hD hys ⟨⟨v, hv, hrow, _⟩, hbs, hbn, hB⟩ hK
    have hc := hv.cell
    have hU : ys.map (fun x => Value.string (brAt ds x.1)) = cellsS U := by
      rw [← HALL.out, ← hys, cellsS, List.map_map, List.map_map]
      rfl
    have hyl : ys.length = U.length := by
      have := congrArg List.length hU
      simpa using this
    rw [hU, hyl] at hrow
    gi_wp2
    refine ⟨by simp, .inl ⟨_, _, rfl, run_takeDeferred hK, ?_⟩⟩
    exact ⟨_, results_tmp rfl _ _ _, _, rfl, ownsRow_putObj hrow _ hK rfl, hB.trans (belowK_b (w := w) (Nat.le_refl _) W D _ _ (by omega) hK rfl rfl)⟩
  case stop =>
    rintro D c pre W _ _ h _
    exact h.elim
end Go.Proofs.Ytdiammehnakchab
