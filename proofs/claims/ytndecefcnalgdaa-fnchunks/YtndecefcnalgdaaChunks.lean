/- CONTRACTS: the texts between the cuts: the specification's (l4Chunks, Chunks) and impl.Chunks. -/
import Derived.Test.YtndecefcnalgdaaCuts
import Derived.Test.YtndecefcnalgdaaOwn
import Derived.Laws.MakeOwn
namespace Go.Proofs.Ytndecefcnalgdaa
open Go.RowKit

/-- the first k of the texts between the cuts -/
def piecesN (s : ByteArray) (C : List Nat) (k : Nat) : List ByteArray := (List.range k).map fun j => s.extract ((0 :: C).getD j 0) (C.getD j 0)
def chunksI (s : ByteArray) (W : Nat) (P : Int) (L M : Nat) : List ByteArray := piecesN s (cutsN s W P L M) (cutsN s W P L M).length
/-- what Chunks tells -/
def chunksT (s : ByteArray) (W P L M : Int) : List ByteArray := if ruleB W P L M = true ∧ s.size ≤ 20000 then chunksI s W.toNat P L.toNat M.toNat else []
theorem chunksT_ok (s : ByteArray) {W : Nat} {P : Int} {L M : Nat} (h : okRule W P L M) (hs : s.size ≤ 20000) : chunksT s W P L M = chunksI s W P L M := by
  unfold chunksT
  rw [if_pos ⟨ok_ruleB h, hs⟩]
  rfl
theorem piecesN_succ (s : ByteArray) (C : List Nat) (k : Nat) : piecesN s C (k + 1) = piecesN s C k ++ [s.extract ((0 :: C).getD k 0) (C.getD k 0)] := by simp [piecesN, List.range_succ]
theorem piecesN_len (s : ByteArray) (C : List Nat) (k : Nat) : (piecesN s C k).length = k := by simp [piecesN]
theorem piecesN_get (s : ByteArray) (C : List Nat) (k j : Nat) (h : j < k) : (piecesN s C k).getD j ByteArray.empty = s.extract ((0 :: C).getD j 0) (C.getD j 0) := by simp [piecesN, List.getD, h]
theorem chunksI_len (s : ByteArray) (W : Nat) (P : Int) (L M : Nat) : (chunksI s W P L M).length = (cutsN s W P L M).length := piecesN_len _ _ _

/-- a row of one kind stays where one of another kind is written -/
theorem owns_apart {w w' : World} {b b' : Nat} {e e' : TypeId} {v v' : Value} {n n' : Nat} {xs xs' : List Value} (h : w.ownsRow b e 1 v n xs) (k : w.ownsRow b' e' 1 v' n' xs') (he : e ≠ e') (hg : w.grownBy w' v'.ownBlock) : w'.ownsRow b e 1 v n xs :=
  h.kept hg (by
    rcases h.2 with ⟨rfl, _⟩ | ⟨g, cap, cur, rfl, _, hh, _⟩
    · exact .inl rfl
    · exact .inr (fun e2 => Lib.ownBlock_ne k hh he e2.symm))
theorem one_cellV (w : World) (u : Value) (t : TypeId) : ∀ j x, ([u] : List Value)[j]? = some x → (w.alloc (.cells #[u] t)).cell? ((⟨w.heap.size, 0, none⟩ : Addr).add j) = some x := by
  intro j x hj
  match j, hj with
  | 0, hj => simp at hj; subst hj; simp [Addr.add]

set_option maxHeartbeats 2000000 in
set_option maxRecDepth 100000 in
theorem l4Chunks_in (s : ByteArray) (W : Nat) (P : Int) (L M : Nat) (w : World) (hs : s.size ≤ 20000) (hr : okRule W P L M) :
    Calls Try.prog 90 #[.string s, ruleV W P L M] w fun e w' => ∃ v, e = .returned v ∧ w'.ownsRow w.heap.size 9 1 v (cutsN s W P L M).length (cellsS (chunksI s W P L M)) ∧ Below w.heap.size w w' := by
  obtain ⟨i0, hi, hz0, hz1, hz2⟩ := info_parts Try.infoS
  have HAT : Hid (∀ k, k ≤ (cutsN s W P L M).length → ∃ a : Nat, a = (0 :: cutsN s W P L M).getD k 0 ∧ a ≤ s.size ∧ (a < s.size ↔ k < (cutsN s W P L M).length) ∧
      (k < (cutsN s W P L M).length → (cutsN s W P L M).getD k 0 = a + nextL W P L M (byts (s.extract a s.size)) ∧ (cutsN s W P L M).getD k 0 ≤ s.size ∧ a < (cutsN s W P L M).getD k 0)) := cut_at s hr
  have HCI : Hid (∀ k, k < (cutsN s W P L M).length → (cutsI s W P L M).getD k 0 = ((cutsN s W P L M).getD k 0 : Int)) := cutsI_get s W P L M
  have hcI := cutsI_len s W P L M
  have hcl : (cutsN s W P L M).length ≤ s.size := by
    have := cuts_count (okn_next (W := W) (P := P) (L := L) (M := M) (by omega) hr.2.2.2.1) (byts s) 0 (Nat.zero_le _)
    rw [byts_len] at this
    exact this
  have HCH : Hid (chunksI s W P L M = piecesN s (cutsN s W P L M) (cutsN s W P L M).length) := rfl
  have HCU := fun w' => l4Cuts_in s W P L M w' hs hr
  generalize chunksI s W P L M = CH at HCH ⊢
  generalize cutsI s W P L M = CI at HCI hcI HCU
  generalize cutsN s W P L M = C at HAT hcl HCI hcI HCU HCH ⊢
  have hB0 := (Below.refl w.heap.size w).alloc (Nat.le_refl _) (.cells #[.int .i64 (W : Int), .int .i64 P, .int .i64 (L : Int), .int .i64 (M : Int)] 56)
  have hB := hB0.alloc hB0.size (.cells #[] 9)
  have ho0 : ((w.alloc (.cells #[.int .i64 (W : Int), .int .i64 P, .int .i64 (L : Int), .int .i64 (M : Int)] 56)).alloc (.cells #[] 9)).ownsRow w.heap.size 9 1 (.slice (some ⟨w.heap.size + 1, 0, none⟩) 0 0) 0 [] := by
    have h := World.ownsRow_lit (base := w.heap.size) (e := 9) (size := 1) (w.alloc (.cells #[.int .i64 (W : Int), .int .i64 P, .int .i64 (L : Int), .int .i64 (M : Int)] 56)) #[] 0 hB0.size (Nat.zero_le _) rfl
    rw [World.size_alloc] at h
    exact h
  go_enter Try.func90, Try.ntmps90
  go_wp2_with fail
  refine (HCU _).mono ?_
  rintro e w1 ⟨vc, rfl, hoc, hb1⟩
  have hB1 := hB.trans (hb1.mono hB.size)
  have ho1 := owns_below ho0 hb1
  have hocb := owns_base hoc hB.size
  clear hB0 hB ho0 hb1 hoc HCU
  obtain ⟨ao, cap, rfl⟩ := owns_slice hocb
  go_wp2
  go_loopw [5, 7, 8] (fun v q i wr => ∃ k a : Nat, k ≤ C.length ∧ i = .int .i64 k ∧ q = .int .i64 a ∧ a = (0 :: C).getD k 0 ∧ wr.ownsRow w.heap.size 9 1 v k (cellsS (piecesN s C k)) ∧ wr.ownsRow w.heap.size 2 1 (.slice ao C.length cap) C.length (cellsInt64S CI) ∧ Below w.heap.size w wr) (fun _ _ i _ => C.length - (intOf i).toNat)
  case atStart => exact ⟨0, 0, Nat.zero_le _, rfl, rfl, rfl, ho1, hocb, hB1⟩
  case round =>
    obtain ⟨k, a, hk, rfl, rfl, ha, ho, hoc, hb⟩ := hrel
    clear ho1 hocb hB1
    obtain ⟨a', ha', ha1, ha2, ha3⟩ := HAT.out k hk
    obtain rfl : a = a' := by rw [ha, ha']
    by_cases hlt : k < C.length
    focus
      obtain ⟨hc1, hc2, hc3⟩ := ha3 hlt
      obtain ⟨g, cap2, hv, _⟩ := owns_head hoc (by omega)
      simp only [Value.slice.injEq] at hv
      obtain ⟨rfl, _, rfl⟩ := hv
      have hcell : wr.cell? ⟨g, k, none⟩ = some (.int .i64 ((C.getD k 0 : Nat) : Int)) := by
        have h := hoc.cellAt k (by omega)
        rw [h, ints_get _ CI k (by omega), HCI.out k hlt]
      have HPS : Hid (piecesN s C (k + 1) = piecesN s C k ++ [s.extract a (C.getD k 0)]) := by show _ = _; rw [piecesN_succ, ← ha]
      have hkk : Hid (C.getD k 0 = (0 :: C).getD (k + 1) 0) := by show _ = _; simp
      have hsl : ∀ W' : World, (Instr.slice 9 (.string s) (some (.int .i64 (a : Int))) (some (.int .i64 ((C.getD k 0 : Nat) : Int))) none).run Try.prog W' = .ok (.string (s.extract a (C.getD k 0))) W' := fun W' => by
        rw [run_slice_string _ 9 s .i64 .i64 _ _ Try.underlying9 (by omega) (by omega) (by omega)]
        rw [show ((a : Int)).toNat = a by omega, Int.toNat_natCast]
      obtain ⟨c, hc⟩ : ∃ c, c = C.getD k 0 := ⟨_, rfl⟩
      rw [← hc] at hcell HPS hkk hsl hc2 hc3
      obtain ⟨x, hx⟩ : ∃ x, x = s.extract a c := ⟨_, rfl⟩
      rw [← hx] at HPS hsl
      have hpl := piecesN_len s C k
      obtain ⟨acc, hacc⟩ : ∃ acc, acc = piecesN s C k := ⟨_, rfl⟩
      rw [← hacc] at ho HPS hpl
      have hsb := hb.size
      clear hc hx hacc ha ha' ha2 ha3 hc1
      go_wp2_with (at_builtin; refine wpList_append_own _ rfl _ _ 37 rfl w.heap.size 9 i0 (.string ⟨#[]⟩) 1 16 Try.underlying37 hi hz0 hz1 hz2 rfl (by decide) _ _ _ rfl (ho.alloc _) ⟨wr.heap.size, 0, none⟩ 1 1 [.string x] rfl rfl ?c1 ?c2 ?c3 ?c4 ?c5 ?_)
      case c1 => exact one_cellV wr _ _
      case c2 => intro u hu; rw [List.mem_singleton.1 hu]; rfl
      case c3 => unfold maxLen; omega
      case c4 => omega
      case c5 => simp; omega
      intro v3 w3 ho3 hg3 _
      have hb3 : Below w.heap.size w w3 := (hb.alloc (by omega) _).grown hg3 (by simp; omega) (fun k hk => (ho.lt k hk).1)
      have hoc3 := owns_apart (hoc.alloc (.cells #[.string x] 9)) (ho.alloc (.cells #[.string x] 9)) (by decide) hg3
      have hcell3 : w3.cell? ⟨g, k, none⟩ = some (.int .i64 (c : Int)) := by
        rw [hoc3.cellAt k (by omega), ← hoc.cellAt k (by omega), hcell]
      have ho4 : w3.ownsRow w.heap.size 9 1 v3 (k + 1) (cellsS (piecesN s C (k + 1))) := by rw [HPS.out]; simpa [cellsS] using ho3
      clear ho3 hg3 ho hb hcell hoc
      go_wp2
      go_roundw
      case rel =>
        exact ⟨k + 1, c, by omega, by go_num, rfl, hkk.out, ho4, hoc3, hb3⟩
      case measure => simp [intOf]; omega
    obtain rfl : k = C.length := by omega
    rw [← HCH.out] at ho
    clear hoc ha ha' ha2 ha3 HAT HCI HCH
    go_wp2
    go_ret
    exact ⟨_, rfl, ho, hb⟩

set_option maxHeartbeats 1000000 in
set_option maxRecDepth 100000 in
theorem specChunks_any (s : ByteArray) (W P L M : Int) (w : World) (hs : s.size ≤ 9223372036854775807) :
    Calls Try.prog 54 #[.string s, ruleV W P L M] w fun e w' => ∃ v, e = .returned v ∧ w'.ownsRow w.heap.size 9 1 v (chunksT s W P L M).length (cellsS (chunksT s W P L M)) ∧ Below w.heap.size w w' := by
  have hB : Below w.heap.size w (w.alloc (.cells #[.int .i64 W, .int .i64 P, .int .i64 L, .int .i64 M] 56)) := (Below.refl _ _).alloc (Nat.le_refl _) _
  have hbx := heap_alloc_new w (.cells #[.int .i64 W, .int .i64 P, .int .i64 L, .int .i64 M] 56)
  cases hr : ruleB W P L M with
  | false =>
    have e : chunksT s W P L M = [] := by unfold chunksT; rw [hr, if_neg (fun h => Bool.false_ne_true h.1)]
    rw [e]
    clear e
    go_enter Try.func54, Try.ntmps54
    go_wp2_with fail
    refine (specRuleOk_any _ _ _ _ _).mono ?_
    rintro e w1 ⟨rfl, hb1⟩
    rw [hr]
    have hB1 := hB.trans (hb1.mono (by simp))
    clear hbx hb1 hB
    go_wp2
    go_ret
    exact ⟨_, rfl, World.ownsRow_lit w1 #[] 0 hB1.size (Nat.zero_le _) rfl, hB1.alloc hB1.size _⟩
  | true =>
    by_cases hbig : 20000 < (s.size : Int)
    · have e : chunksT s W P L M = [] := by unfold chunksT; rw [if_neg (by omega)]
      rw [e]
      clear e
      go_enter Try.func54, Try.ntmps54
      go_wp2_with fail
      refine (specRuleOk_any _ _ _ _ _).mono ?_
      rintro e w1 ⟨rfl, hb1⟩
      rw [hr]
      have hB1 := hB.trans (hb1.mono (by simp))
      clear hbx hb1 hB
      go_wp2
      go_ret
      exact ⟨_, rfl, World.ownsRow_lit w1 #[] 0 hB1.size (Nat.zero_le _) rfl, hB1.alloc hB1.size _⟩
    · obtain ⟨W, L, M, rfl, rfl, rfl, hok⟩ := ruleB_ok hr
      rw [chunksT_ok s hok (by omega)]
      have hcl := chunksI_len s W P L M
      rw [hcl]
      go_enter Try.func54, Try.ntmps54
      go_wp2_with fail
      refine (specRuleOk_any _ _ _ _ _).mono ?_
      rintro e w1 ⟨rfl, hb1⟩
      rw [hr]
      obtain ⟨d0, d1, d2, d3⟩ := rule_cells (hb1.block w.heap.size (by simp)) hbx
      have hB1 := hB.trans (hb1.mono (by simp))
      clear hbx hb1 hB
      go_wp2_with fail
      refine (l4Chunks_in s W P L M _ (by omega) hok).mono ?_
      rintro e w2 ⟨v, rfl, ho, hb2⟩
      have hB2 := hB1.trans (hb2.mono hB1.size)
      have ho2 := owns_base ho hB1.size
      go_wp2
      go_ret
      exact ⟨_, rfl, ho2, hB2⟩

theorem asB_self (s : ByteArray) : asB (byts s) = s := by
  apply ByteArray.ext
  unfold asB byts
  rw [List.map_map]
  have h : (fun b : UInt8 => UInt8.ofNat ((b.toNat : Int)).toNat) = id := by
    funext b
    simp
  show (List.map ((fun z : Int => UInt8.ofNat z.toNat) ∘ fun b : UInt8 => (b.toNat : Int)) s.data.toList).toArray = s.data
  rw [show ((fun z : Int => UInt8.ofNat z.toNat) ∘ fun b : UInt8 => (b.toNat : Int)) = id from h, List.map_id]

theorem bytesRow_size4 (s : ByteArray) (cap : Nat) (h : s.size ≤ cap) : (bytesRow s cap).size = cap := by
  have e : s.data.size = s.size := rfl
  simp [bytesRow, e]; omega

/-- 'row[a:c:c]' -/
theorem slice_three (g n cap a c : Nat) (h1 : a < c) (h2 : c ≤ cap) : ∀ W : World, (Instr.slice 22 (.slice (some ⟨g, 0, none⟩) n cap) (some (.int .i64 (a : Int))) (some (.int .i64 (c : Int))) (some (.int .i64 (c : Int)))).run Try.prog W = .ok (.slice (some ⟨g, a, none⟩) (c - a) (c - a)) W := fun W => by
  obtain ⟨i0, hi, hz0, hz1, hz2⟩ := info_parts Try.infoB
  have hel : Try.prog.elem 22 = 5 := by kernel_rfl
  have hsz : ∀ W : World, (sizeOf 5).run Try.prog W = .ok 1 W := fun W => by simp [sizeOf, typeInfo, hi, hz1]
  rw [run_slice_lhm W 22 _ n cap (by rw [hel]; exact Try.underlying22) .i64 .i64 .i64 _ _ _ (by omega) (by omega) (by omega) (by omega), hel, hsz]
  have hne : ¬ c = a := by omega
  simp [Result.andThen, sliced, hne]
  exact (Addr.add_lit ..).trans (by rw [Nat.zero_add])

/-- '[]byte(s)' -/
theorem conv_row (s : ByteArray) (W : World) : ∃ (cs : Array Value) (cp : Nat), s.size ≤ cp ∧ (∀ k, k < s.size → cs[k]? = some (.int .u8 ((byts s).getD k 0))) ∧
    (convert 9 22 (.string s)).run Try.prog W = .ok (.slice (some ⟨W.heap.size, 0, none⟩) s.size cp) (W.drew.alloc (.cells cs 5 (cp, cp + 1))) := by
  have hcv := run_bytes_of_string (P := Try.prog) W 9 22 5 s Try.underlying9 Try.underlying22 Try.underlying5
  have hcap : s.size ≤ grownCap W s.size 0 5 := grownCap_ge W s.size 0 5
  refine ⟨bytesRow s (grownCap W s.size 0 5), grownCap W s.size 0 5, hcap, fun k hk => ?_, ?_⟩
  · rw [byts_get s k hk]
    exact bytesRow_at s _ k hk
  · rw [bytesRow_size4 s _ hcap] at hcv
    exact hcv

set_option maxHeartbeats 4000000 in
set_option maxRecDepth 100000 in
theorem implChunks_in (s : ByteArray) (W : Nat) (P : Int) (L M : Nat) (w : World) (hs : s.size ≤ 20000) (hr : okRule W P L M) :
    Calls Try.prog 51 #[.string s, ruleV W P L M] w fun e w' => ∃ v, e = .returned v ∧ w'.ownsRow w.heap.size 9 1 v (cutsN s W P L M).length (cellsS (chunksI s W P L M)) ∧ Below w.heap.size w w' := by
  obtain ⟨i0, hi, hz0, hz1, hz2⟩ := info_parts Try.infoS
  have HAT : Hid (∀ k, k ≤ (cutsN s W P L M).length → ∃ a : Nat, a = (0 :: cutsN s W P L M).getD k 0 ∧ a ≤ s.size ∧ (a < s.size ↔ k < (cutsN s W P L M).length) ∧
      (k < (cutsN s W P L M).length → (cutsN s W P L M).getD k 0 = a + nextL W P L M (byts (s.extract a s.size)) ∧ (cutsN s W P L M).getD k 0 ≤ s.size ∧ a < (cutsN s W P L M).getD k 0)) := cut_at s hr
  have HCI : Hid (∀ k, k < (cutsN s W P L M).length → (cutsI s W P L M).getD k 0 = ((cutsN s W P L M).getD k 0 : Int)) := cutsI_get s W P L M
  have hcI := cutsI_len s W P L M
  have hcl : (cutsN s W P L M).length ≤ s.size := by
    have := cuts_count (okn_next (W := W) (P := P) (L := L) (M := M) (by omega) hr.2.2.2.1) (byts s) 0 (Nat.zero_le _)
    rw [byts_len] at this
    exact this
  have HCH : Hid (chunksI s W P L M = piecesN s (cutsN s W P L M) (cutsN s W P L M).length) := rfl
  have HCU := fun w' => implCuts_in s W P L M w' hs hr
  generalize chunksI s W P L M = CH at HCH ⊢
  generalize cutsI s W P L M = CI at HCI hcI HCU
  generalize cutsN s W P L M = C at HAT hcl HCI hcI HCU HCH ⊢
  have hB := (Below.refl w.heap.size w).alloc (Nat.le_refl _) (.cells #[.int .i64 (W : Int), .int .i64 P, .int .i64 (L : Int), .int .i64 (M : Int)] 56)
  go_enter Try.func51, Try.ntmps51
  go_wp2_with fail
  refine (HCU _).mono ?_
  rintro e w1 ⟨vc, rfl, hoc, hb1⟩
  have hB1 := hB.trans (hb1.mono hB.size)
  have hocb := owns_base hoc hB.size
  have hsz1 := hB1.size
  clear hB hb1 hoc HCU
  obtain ⟨ao, cap, rfl⟩ := owns_slice hocb
  go_wp2_with (at_make; refine wpList_make_own _ rfl _ _ 37 rfl w.heap.size 9 i0 (.string ⟨#[]⟩) 1 Try.underlying37 hi hz0 hz1 .i64 .i64 _ C.length rfl rfl (by omega) (by rw [hz2]; omega) (by unfold maxLen; omega) hsz1 ?_; intro w2 hown2 hgrow2; obtain ⟨cs, cp, hcp, hcc, hcv⟩ := conv_row s w2)
  have hB2 := hB1.grown hgrow2 hsz1 (fun k e => by cases e)
  have hoc2 := hocb.kept hgrow2 (by cases (Value.slice ao C.length cap).ownBlock <;> simp)
  have hgr : (w2.alloc (.cells cs 5 (cp, cp + 1))).drew.heap[w2.heap.size]? = some (.cells cs 5 (cp, cp + 1)) := heap_alloc_new w2 (.cells cs 5 (cp, cp + 1))
  have hB3 := (hB2.alloc hB2.size (.cells cs 5 (cp, cp + 1))).drew
  have hoc3 : (w2.alloc (.cells cs 5 (cp, cp + 1))).drew.ownsRow w.heap.size 2 1 (.slice ao C.length cap) C.length (cellsInt64S CI) := World.ownsRow.alloc hoc2 _
  have hown3 : (w2.alloc (.cells cs 5 (cp, cp + 1))).drew.ownsRow w.heap.size 9 1 (.slice (some ⟨w1.heap.size, 0, none⟩) 0 C.length) 0 [] := World.ownsRow.alloc hown2 _
  clear hcv hoc2 hown2 hgrow2 hB2 hB1 hocb
  generalize hw3 : (w2.alloc (.cells cs 5 (cp, cp + 1))).drew = w3 at hgr hB3 hoc3 hown3 ⊢
  have hgr2 : w3.heap[w2.heap.size]? = some (.cells cs 5 (cp, cp + 1)) := hgr
  clear hw3 hgr
  go_loopw [6, 8, 21] (fun v q i wr => ∃ k a : Nat, k ≤ C.length ∧ i = .int .i64 k ∧ q = .int .i64 a ∧ a = (0 :: C).getD k 0 ∧ wr.ownsRow w.heap.size 9 1 v k (cellsS (piecesN s C k)) ∧ wr.ownsRow w.heap.size 2 1 (.slice ao C.length cap) C.length (cellsInt64S CI) ∧ Hid (wr.heap[w2.heap.size]? = some (.cells cs 5 (cp, cp + 1))) ∧ Below w.heap.size w wr) (fun _ _ i _ => C.length - (intOf i).toNat)
  case atStart => exact ⟨0, 0, Nat.zero_le _, rfl, rfl, rfl, hown3, hoc3, hgr2, hB3⟩
  case round =>
    obtain ⟨k, a, hk, rfl, rfl, ha, ho, hoc, hgb, hb⟩ := hrel
    clear hown3 hoc3 hgr2 hB3
    obtain ⟨a', ha', ha1, ha2, ha3⟩ := HAT.out k hk
    obtain rfl : a = a' := by rw [ha, ha']
    by_cases hlt : k < C.length
    focus
      obtain ⟨hc1, hc2, hc3⟩ := ha3 hlt
      obtain ⟨g, cap2, hv, _⟩ := owns_head hoc (by omega)
      simp only [Value.slice.injEq] at hv
      obtain ⟨rfl, _, rfl⟩ := hv
      have hcell : wr.cell? ⟨g, k, none⟩ = some (.int .i64 ((C.getD k 0 : Nat) : Int)) := by
        have h := hoc.cellAt k (by omega)
        rw [h, ints_get _ CI k (by omega), HCI.out k hlt]
      have HPS : Hid (piecesN s C (k + 1) = piecesN s C k ++ [s.extract a (C.getD k 0)]) := by show _ = _; rw [piecesN_succ, ← ha]
      have hkk : Hid (C.getD k 0 = (0 :: C).getD (k + 1) 0) := by show _ = _; simp
      obtain ⟨c, hc⟩ : ∃ c, c = C.getD k 0 := ⟨_, rfl⟩
      rw [← hc] at hcell HPS hkk hc2 hc3
      have hsl := slice_three w2.heap.size s.size cp a c hc3 (by omega)
      have hxl : (byts (s.extract a c)).length = c - a := by rw [byts_len, ByteArray.size_extract]; omega
      have hxc : ∀ j u, (cellsByteS (byts (s.extract a c)))[j]? = some u → wr.cell? ((⟨w2.heap.size, a, none⟩ : Addr).add j) = some u := fun j u hj => by
        have e : (⟨w2.heap.size, a, none⟩ : Addr).add j = ⟨w2.heap.size, a + j, none⟩ := Addr.add_lit ..
        have hjl : j < c - a := by
          have h := (List.getElem?_eq_some_iff.1 hj).1
          rw [List.length_map, hxl] at h
          exact h
        rw [e, Lib.cell_of_heap hgb.out, hcc (a + j) (by omega), ← hj, ints_get _ _ j (by rw [hxl]; exact hjl), byts_extract, take_getD _ _ _ hjl]
        simp [List.getD, List.getElem?_drop]
      have hgl : w2.heap.size < wr.heap.size := (Array.getElem?_eq_some_iff.1 hgb.out).1
      have hself := asB_self (s.extract a c)
      have HOT := ownText_any ⟨w2.heap.size, a, none⟩ (c - a) (c - a) (byts (s.extract a c)) wr hxl (byts_bytes _) hxc hgl (by omega)
      rw [hself] at HOT
      obtain ⟨x, hx⟩ : ∃ x, x = s.extract a c := ⟨_, rfl⟩
      rw [← hx] at HPS HOT
      have hpl := piecesN_len s C k
      obtain ⟨acc, hacc⟩ : ∃ acc, acc = piecesN s C k := ⟨_, rfl⟩
      rw [← hacc] at ho HPS hpl
      have hsb := hb.size
      clear hc hx hacc ha ha' ha2 ha3 hc1 hxc hself hxl
      go_wp2_with fail
      refine HOT.mono ?_
      rintro e w4 ⟨rfl, hb4⟩
      have hoc4 := owns_below hoc hb4
      have ho4 := owns_below ho hb4
      have hgb4 : Hid (w4.heap[w2.heap.size]? = some (.cells cs 5 (cp, cp + 1))) := (hb4.block _ hgl).trans hgb.out
      have hB4 := hb.trans (hb4.mono hsb)
      have hsb4 := hB4.size
      have hgl4 : w2.heap.size < w4.heap.size := Nat.lt_of_lt_of_le hgl hb4.size
      clear HOT hoc ho hgb hb hb4 hcell
      go_wp2_with (at_builtin; refine wpList_append_own _ rfl _ _ 37 rfl w.heap.size 9 i0 (.string ⟨#[]⟩) 1 16 Try.underlying37 hi hz0 hz1 hz2 rfl (by decide) _ _ _ rfl (ho4.alloc _) ⟨w4.heap.size, 0, none⟩ 1 1 [.string x] rfl rfl ?c1 ?c2 ?c3 ?c4 ?c5 ?_)
      case c1 => exact one_cellV w4 _ _
      case c2 => intro u hu; rw [List.mem_singleton.1 hu]; rfl
      case c3 => unfold maxLen; omega
      case c4 => omega
      case c5 => simp; omega
      intro v5 w5 ho5 hg5 _
      have hb5 : Below w.heap.size w w5 := (hB4.alloc (by omega) _).grown hg5 (by simp; omega) (fun k hk => (ho4.lt k hk).1)
      have hoc5 := owns_apart (hoc4.alloc (.cells #[.string x] 9)) (ho4.alloc (.cells #[.string x] 9)) (by decide) hg5
      have hgb5 : Hid (w5.heap[w2.heap.size]? = some (.cells cs 5 (cp, cp + 1))) := by
        have h1 : (w4.alloc (.cells #[.string x] 9)).heap[w2.heap.size]? = some (.cells cs 5 (cp, cp + 1)) := (Below.heap_alloc _ _ _ hgl4).trans hgb4.out
        exact (hg5.block _ (by simp; omega) (fun e => Lib.ownBlock_ne (ho4.alloc (.cells #[.string x] 9)) h1 (by decide) e.symm)).trans h1
      have ho6 : w5.ownsRow w.heap.size 9 1 v5 (k + 1) (cellsS (piecesN s C (k + 1))) := by rw [HPS.out]; simpa [cellsS] using ho5
      clear ho5 hg5 ho4 hB4 hoc4 hgb4
      go_wp2
      go_roundw
      case rel => exact ⟨k + 1, c, by omega, by go_num, rfl, hkk.out, ho6, hoc5, hgb5, hb5⟩
      case measure => simp [intOf]; omega
    obtain rfl : k = C.length := by omega
    rw [← HCH.out] at ho
    clear hoc ha ha' ha2 ha3 HAT HCI HCH hgb
    go_wp2
    go_ret
    exact ⟨_, rfl, ho, hb⟩
set_option maxHeartbeats 1000000 in
set_option maxRecDepth 100000 in
theorem implChunks_any (s : ByteArray) (W P L M : Int) (w : World) (hs : s.size ≤ 9223372036854775807) :
    Calls Try.prog 51 #[.string s, ruleV W P L M] w fun e w' => ∃ v, e = .returned v ∧ w'.ownsRow w.heap.size 9 1 v (chunksT s W P L M).length (cellsS (chunksT s W P L M)) ∧ Below w.heap.size w w' := by
  by_cases hok : ruleB W P L M = true ∧ s.size ≤ 20000
  · obtain ⟨hr, hl⟩ := hok
    obtain ⟨W, L, M, rfl, rfl, rfl, hok⟩ := ruleB_ok hr
    rw [chunksT_ok s hok hl, chunksI_len]
    exact implChunks_in s W P L M w hl hok
  · have e : chunksT s W P L M = [] := by unfold chunksT; rw [if_neg hok]
    have e2 : cutsT s W P L M = [] := by unfold cutsT; rw [if_neg hok]
    rw [e]
    have HCU := fun w' => implCuts_any s W P L M w' hs
    rw [e2] at HCU
    clear e e2 hok
    obtain ⟨i0, hi, hz0, hz1, hz2⟩ := info_parts Try.infoS
    have hB := (Below.refl w.heap.size w).alloc (Nat.le_refl _) (.cells #[.int .i64 W, .int .i64 P, .int .i64 L, .int .i64 M] 56)
    go_enter Try.func51, Try.ntmps51
    go_wp2_with fail
    refine (HCU _).mono ?_
    rintro e w1 ⟨vc, rfl, hoc, hb1⟩
    have hB1 := hB.trans (hb1.mono hB.size)
    obtain ⟨ao, cap, rfl⟩ := owns_slice hoc
    have hsz1 := hB1.size
    clear hB hb1 hoc HCU
    go_wp2_with (at_make; refine wpList_make_own _ rfl _ _ 37 rfl w.heap.size 9 i0 (.string ⟨#[]⟩) 1 Try.underlying37 hi hz0 hz1 .i64 .i64 _ 0 rfl rfl rfl (by rw [hz2]; omega) (by unfold maxLen; omega) hsz1 ?_; intro w2 hown2 hgrow2; obtain ⟨cs, cp, hcp, hcc, hcv⟩ := conv_row s w2)
    have hB2 := hB1.grown hgrow2 hsz1 (fun k e => by cases e)
    have hB3 := (hB2.alloc hB2.size (.cells cs 5 (cp, cp + 1))).drew
    have hown3 : (w2.alloc (.cells cs 5 (cp, cp + 1))).drew.ownsRow w.heap.size 9 1 (.slice (some ⟨w1.heap.size, 0, none⟩) 0 0) 0 [] := World.ownsRow.alloc hown2 _
    clear hcv hown2 hgrow2 hB2 hB1 hcc
    refine wp_loop_rounds 1 ?_
    rw [rounds_succ]
    go_wp2
    go_ret
    exact ⟨_, rfl, hown3, hB3⟩

end Go.Proofs.Ytndecefcnalgdaa
