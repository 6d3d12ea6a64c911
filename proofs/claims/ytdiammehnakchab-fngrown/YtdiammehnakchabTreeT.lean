/- CONTRACTS: the specification's l8Told, Told. -/
import Derived.Test.YtdiammehnakchabTreeS
import Derived.Test.YtdiammehnakchabToldMath
import Derived.Test.YtdiammehnakchabStoP
import Derived.Test.YtdiammehnakchabOneT
import Derived.Test.YtdiammehnakchabClashes
namespace Go.Proofs.Ytdiammehnakchab
open Go.RowKit
set_option linter.unusedVariables false
abbrev stOf (l : List Bl) (d : Int) : Option ByteArray := (findB l d).map (·.2)
theorem told_len {st : Int → Option ByteArray} : ∀ (n : Nat) (d : Int) (out o : List ByteArray), out.length ≤ 64 → toldF st n d out = some o → o.length ≤ 64 := by
  intro n
  induction n with
  | zero => intro d out o _ h; cases h
  | succ n ih =>
    intro d out o hl h
    have fold : ∀ (ds : List Int) (out o : List ByteArray), out.length ≤ 64 → ds.foldlM (fun o e => toldF st n e o) out = some o → o.length ≤ 64 := by
      intro ds
      induction ds with
      | nil => intro out o hl h; obtain rfl : out = o := Option.some.inj h; exact hl
      | cons e r ihr =>
        intro out o hl h
        rw [List.foldlM_cons] at h
        cases hx : toldF st n e out with
        | none => rw [hx] at h; cases h
        | some x =>
          rw [hx] at h
          exact ihr x o (ih e out x hl hx) h
    cases hs : st d with
    | none => rw [told_none n out hs] at h; cases h
    | some s =>
      cases hc : childT s with
      | none => rw [told_neither n out hs hc] at h; cases h
      | some l =>
        by_cases hn : l = []
        · subst hn
          rw [told_leaf n out hs hc] at h
          split at h
          · obtain rfl := Option.some.inj h
            rw [List.length_append, List.length_singleton]; omega
          · cases h
        · rw [told_branch n out hs hc hn] at h
          exact fold l out o hl h
theorem leaf_head {s : ByteArray} (h : childT s = some []) : 0 < s.size ∧ (byts s).getD 0 0 = 0 ∧ chunkT s = s.extract 1 s.size := by
  rcases child_back h with ⟨r, hr, _⟩ | ⟨_, hk⟩
  · have hl := byts_len s
    rw [hr] at hl
    refine ⟨by unfold leafL at hl; simp at hl; omega, by rw [hr]; rfl, bytsT_inj ?_⟩
    rw [drop_ext]
    unfold chunkT
    exact asB_byts _ (bytes_drop (byts_bytes s) 1)
  · exact absurd hk.1 (by simp)
theorem branch_head {s : ByteArray} {l : List Int} (h : childT s = some l) (hn : l ≠ []) : 0 < s.size ∧ (byts s).getD 0 0 = 1 ∧ l.length ≤ 4 := by
  rcases child_back h with ⟨r, hr, h0⟩ | ⟨hr, hk⟩
  · exact absurd h0 hn
  · have hl := byts_len s
    rw [hr, brL_ok hk] at hl
    exact ⟨by simp at hl; omega, by rw [hr, brL_ok hk]; rfl, hk.2.1⟩
/-- rows of numbers stay -/
def KeepI (w w' : World) : Prop := ∀ (k : Nat) (cur : Array Value) (fr : Nat × Nat), w.heap[k]? = some (.cells cur 2 fr) → w'.heap[k]? = some (.cells cur 2 fr)
theorem keepI_refl (w : World) : KeepI w w := fun _ _ _ h => h
theorem keepI_trans {a b c : World} (h : KeepI a b) (k : KeepI b c) : KeepI a c := fun i cur fr e => k i cur fr (h i cur fr e)
theorem keepI_below {w w' : World} (h : Below w.heap.size w w') : KeepI w w' := fun k cur fr e => (h.block k (Array.getElem?_eq_some_iff.1 e).1).trans e
theorem keepI_owns {w w' : World} {base : Nat} {v : Value} {n : Nat} {xs : List Value} (h : w.ownsRow base 2 1 v n xs) (hk : KeepI w w') : w'.ownsRow base 2 1 v n xs := by
  refine ⟨h.1, ?_⟩
  rcases h.2 with hn | ⟨g, cap, cur, rfl, hb, hgg, rest⟩
  · exact Or.inl hn
  · exact Or.inr ⟨g, cap, cur, rfl, hb, hk g cur _ hgg, rest⟩
theorem keepI_grown {w w' : World} {base : Nat} {v : Value} {n : Nat} {xs : List Value} (h : w.ownsRow base 9 1 v n xs) (hg : w.grownBy w' v.ownBlock) : KeepI w w' := fun k cur fr e => by
  refine (hg.block k (Array.getElem?_eq_some_iff.1 e).1 (fun hk => ?_)).trans e
  rcases h.2 with ⟨rfl, _⟩ | ⟨g, cap, cur2, rfl, hb, hgg, rest⟩
  · cases hk
  · obtain rfl : k = g := Option.some.inj hk
    rw [e] at hgg
    simp only [Option.some.injEq, Obj.cells.injEq] at hgg
    exact absurd hgg.2.1 (by decide)
theorem below_keep {w0 w w' : World} {v : Value} {n : Nat} {xs : List Value} {e : TypeId} {size : Nat} (hb : Below w0.heap.size w0 w) (h : w.ownsRow w0.heap.size e size v n xs) (hg : w.grownBy w' v.ownBlock) : Below w0.heap.size w0 w' := hb.grown hg hb.size (fun k hk => (h.lt k hk).1)
theorem owns_headI {w : World} {base : Nat} {e : TypeId} {a : Option Addr} {n c : Nat} {xs : List Value} (h : w.ownsRow base e 1 (.slice a n c) n xs) (hp : 0 < n) : ∃ (g : Nat) (c' : Nat), (a = some ⟨g, 0, none⟩ ∧ c = c') ∧ g < w.heap.size := by
  rcases h.2 with ⟨_, h0⟩ | ⟨g, cap, cur, hv, hg, hh, _⟩
  · omega
  · simp only [Value.slice.injEq] at hv
    exact ⟨g, cap, ⟨hv.1, hv.2.2⟩, (Array.getElem?_eq_some_iff.1 hh).1⟩
set_option maxHeartbeats 2000000 in
set_option maxRecDepth 100000 in
theorem l8Told_any (va : Value) (l : List Bl) (w0 : World) (ha : RdB w0 va l) (hl : l.length ≤ 1048576) (hs : ∀ p ∈ l, p.2.size ≤ 1048576) : ∀ (n deep : Nat) (d : Int) (v : Value) (out : List ByteArray) (w : World), n + deep = 7 → Below w0.heap.size w0 w → w.ownsRow w0.heap.size 9 1 v out.length (cellsS out) → out.length ≤ 64 →
    Calls Try.prog 140 #[va, .int .i64 d, .int .i64 (deep : Int), v] w fun e w' => ∃ v', e = .returned (.tuple #[v', .bool (toldF (stOf l) n d out).isSome]) ∧ (∀ o, toldF (stOf l) n d out = some o → w'.ownsRow w0.heap.size 9 1 v' o.length (cellsS o)) ∧ Below w0.heap.size w0 w' ∧ KeepI w w' := by
  obtain ⟨i0, hi, hz0, hz1, hz2⟩ := info_parts Try.infoS
  intro n
  induction n with
  | zero =>
    intro deep d v out w hn hb ho h64
    obtain rfl : deep = 7 := by omega
    have hf := l7Find_any va l d w (rdB_below ha hb) hl
    have HTR : Hid (toldF (stOf l) 0 d out = none) := rfl
    generalize toldF (stOf l) 0 d out = R at HTR ⊢
    have hR := HTR.out
    subst hR
    obtain ⟨ao, cap, rfl⟩ := rdB_shape ha
    generalize l.length = n0 at hf ⊢
    generalize findI l d = fi at hf
    clear ha ho
    by_cases hneg : fi < 0
    · go_enter Try.func140, Try.ntmps140
      go_wp2_with fail
      refine hf.mono ?_
      rintro e w1 ⟨rfl, rfl⟩
      go_wp2
      go_ret2
      exact ⟨_, rfl, (fun o h => by cases h), hb, keepI_refl _⟩
    · go_enter Try.func140, Try.ntmps140
      go_wp2_with fail
      refine hf.mono ?_
      rintro e w1 ⟨rfl, rfl⟩
      go_wp2
      go_ret2
      exact ⟨_, rfl, (fun o h => by cases h), hb, keepI_refl _⟩
  | succ n ih =>
    intro deep d v out w hn hb ho h64
    have hra := rdB_below ha hb
    have hf := l7Find_any va l d w hra hl
    have hdI : ¬ (6 : Int) < (deep : Int) := by omega
    rcases find_cases l d with ⟨k, hk, hfi, hfb, _⟩ | ⟨hfi, hfb, _⟩
    rotate_left
    · have HTR : Hid (toldF (stOf l) (n + 1) d out = none) := told_none n out (by unfold stOf; rw [hfb]; rfl)
      generalize toldF (stOf l) (n + 1) d out = R at HTR ⊢
      have hR := HTR.out
      subst hR
      rw [hfi] at hf
      obtain ⟨ao, cap, rfl⟩ := rdB_shape ha
      generalize l.length = n0 at hf ⊢
      clear ha ho hra ih hfi hfb HTR
      go_enter Try.func140, Try.ntmps140
      go_wp2_with fail
      refine hf.mono ?_
      rintro e w1 ⟨rfl, rfl⟩
      go_wp2
      go_ret2
      exact ⟨_, rfl, (fun o h => by cases h), hb, keepI_refl _⟩
    have hst : stOf l d = some (l.getD k bl0).2 := by unfold stOf; rw [hfb]; rfl
    rw [hfi] at hf
    have hkI : ¬ (k : Int) < 0 := by omega
    obtain ⟨hn0, b, off, cap, hv, hcap, hlt, hc⟩ : 0 < l.length ∧ ∃ b off cap, va = .slice (some ⟨b, off, none⟩) l.length cap ∧ l.length ≤ cap ∧ b < w.heap.size ∧ ∀ j, j < l.length → w.cell? ⟨b, off + j * 2, none⟩ = some (.int .i64 (l.getD j bl0).1) ∧ w.cell? ⟨b, off + j * 2 + 1, none⟩ = some (.string (l.getD j bl0).2) := by
      rcases rdB_cases hra with ⟨h0, _⟩ | h
      · subst h0; exact absurd hk (Nat.not_lt_zero _)
      · exact h
    have d1 := (hc k hk).2
    have hsz : (l.getD k bl0).2.size ≤ 1048576 := by rw [getD_at hk]; exact hs _ (List.getElem_mem hk)
    obtain ⟨s, hse⟩ : ∃ s, s = (l.getD k bl0).2 := ⟨_, rfl⟩
    rw [← hse] at hst d1 hsz
    have hch := specChildren_any s w hsz
    unfold ChildEnd at hch
    have IH : Hid (∀ (d : Int) (v : Value) (out : List ByteArray) (w : World), Below w0.heap.size w0 w → w.ownsRow w0.heap.size 9 1 v out.length (cellsS out) → out.length ≤ 64 → Calls Try.prog 140 #[va, .int .i64 d, .int .i64 ((deep : Int) + 1), v] w fun e w' => ∃ v', e = .returned (.tuple #[v', .bool (toldF (stOf l) n d out).isSome]) ∧ (∀ o, toldF (stOf l) n d out = some o → w'.ownsRow w0.heap.size 9 1 v' o.length (cellsS o)) ∧ Below w0.heap.size w0 w' ∧ KeepI w w') := fun d v out w h1 h2 h3 => ih (deep + 1) d v out w (by omega) h1 h2 h3
    have HLEN : Hid (∀ d (out o : List ByteArray), out.length ≤ 64 → toldF (stOf l) n d out = some o → o.length ≤ 64) := fun d out o h1 h2 => told_len n d out o h1 h2
    obtain ⟨n1, hn1⟩ : ∃ n1, n1 = l.length := ⟨_, rfl⟩
    rw [← hn1] at hv hk hcap
    subst hv
    clear hse hc hfb hfi hra hn0 ih hn1 ha hs hcap
    cases hcs : childT s with
    | none =>
      have HTR : Hid (toldF (stOf l) (n + 1) d out = none) := told_neither n out hst hcs
      generalize toldF (stOf l) (n + 1) d out = R at HTR ⊢
      have hR := HTR.out
      subst hR
      rw [hcs] at hch
      clear hcs hst HTR IH HLEN ho
      go_enter Try.func140, Try.ntmps140
      go_wp2_with fail
      refine hf.mono ?_
      rintro e w1 ⟨rfl, rfl⟩
      go_wp2_with fail
      refine hch.mono ?_
      rintro e w2 ⟨v2, rfl, ho2, hb2⟩
      have HB := Lib.hid (hb.trans (hb2.mono hb.size))
      have HK := Lib.hid (keepI_below hb2)
      clear ho2 hb2 hf hch hb d1
      go_wp2
      go_ret2
      exact ⟨_, rfl, (fun o h => by cases h), HB.out, HK.out⟩
    | some ds =>
      rw [hcs] at hch
      by_cases hd0 : ds = []
      · subst hd0
        obtain ⟨hp, hh, hck⟩ := leaf_head hcs
        have HTR : Hid (toldF (stOf l) (n + 1) d out = if out.length < 64 then some (out ++ [s.extract 1 s.size]) else none) := by show _ = _; rw [told_leaf n out hst hcs, hck]
        have hix : ∀ W : World, (Instr.index 9 (.string s) (.int .i64 0)).run Try.prog W = .ok (.int .u8 0) W := fun W => by
          have h := str_at s 0 hp W
          rw [hh] at h
          exact h
        have hsl : ∀ W' : World, (Instr.slice 9 (.string s) (some (.int .i64 1)) none none).run Try.prog W' = .ok (.string (s.extract 1 s.size)) W' := fun W' => by
          have h := run_slice_string_l W' 9 s Try.underlying9 .i64 1 (by omega) (by omega)
          exact h
        obtain ⟨t, ht⟩ : ∃ t, t = s.extract 1 s.size := ⟨_, rfl⟩
        rw [← ht] at HTR hsl
        generalize toldF (stOf l) (n + 1) d out = R at HTR ⊢
        obtain ⟨ao, capo, hvo⟩ : ∃ ao capo, v = .slice ao out.length capo := by
          rcases ho.2 with ⟨h1, h2⟩ | ⟨g, cap, cur, h1, _⟩
          · exact ⟨none, 0, by rw [h1, h2]⟩
          · exact ⟨_, _, h1⟩
        subst hvo
        have hsm : (s.size : Int) ≤ 1048576 := by omega
        clear hcs hst IH HLEN hh hck ht
        go_enter Try.func140, Try.ntmps140
        go_wp2_with fail
        refine hf.mono ?_
        rintro e w1 ⟨rfl, rfl⟩
        go_wp2_with fail
        refine hch.mono ?_
        rintro e w2 ⟨v2, rfl, ho2, hb2⟩
        have hB2 := hb.trans (hb2.mono hb.size)
        have HK := Lib.hid (keepI_below hb2)
        have hoo := owns_below ho hb2
        have hs2 := hB2.size
        clear ho2 hb2 hf hch hb ho d1
        go_wp2_with (at_builtin; refine wpList_append_own _ rfl _ _ 44 rfl w0.heap.size 9 i0 (.string ⟨#[]⟩) 1 16 Try.underlying44 hi hz0 hz1 hz2 rfl (by decide) _ _ _ rfl (hoo.alloc _) ⟨w2.heap.size, 0, none⟩ 1 1 [.string t] rfl rfl (one_text w2 t _) (fun u hu => by rw [List.mem_singleton.1 hu]; rfl) (by unfold maxLen; omega) (by omega) (by rw [World.size_alloc]; omega) ?_)
        intro v3 w3 ho3 hg3 _
        have hg4 := grown_trans (World.grownBy_alloc w2 _ _) hg3
        have HB := Lib.hid (below_keep hB2 hoo hg4)
        have HK3 := Lib.hid (keepI_trans HK.out (keepI_grown hoo hg4))
        have ho4 : w3.ownsRow w0.heap.size 9 1 v3 (out ++ [t]).length (cellsS (out ++ [t])) := by simpa using ho3
        have HO := Lib.hid ho4
        clear ho4
        clear ho3 hg3 hg4 hoo hB2
        by_cases h6 : out.length < 64
        · have h6I : (out.length : Int) < 64 := by omega
          have hR := HTR.out
          rw [if_pos h6] at hR
          subst hR
          clear HTR
          go_wp2
          go_ret2
          exact ⟨_, by first | rfl | simp [h6], (fun o h => by obtain rfl := Option.some.inj h; exact HO.out), HB.out, HK3.out⟩
        · have h6I : ¬ (out.length : Int) < 64 := by omega
          have hR := HTR.out
          rw [if_neg h6] at hR
          subst hR
          clear HTR
          go_wp2
          go_ret2
          first
            | exact ⟨⟨_, rfl⟩, HB.out, HK3.out⟩
            | exact ⟨_, rfl, (fun o h => by cases h), HB.out, HK3.out⟩
      · obtain ⟨hp, hh, hd4⟩ := branch_head hcs hd0
        have HTR : Hid (toldF (stOf l) (n + 1) d out = ds.foldlM (fun o e => toldF (stOf l) n e o) out) := told_branch n out hst hcs hd0
        have hix : ∀ W : World, (Instr.index 9 (.string s) (.int .i64 0)).run Try.prog W = .ok (.int .u8 1) W := fun W => by
          have h := str_at s 0 hp W
          rw [hh] at h
          exact h
        generalize toldF (stOf l) (n + 1) d out = R at HTR ⊢
        have HST : Hid (∀ k (acc : List ByteArray), k < ds.length → (∀ x, toldF (stOf l) n (ds.getD k 0) acc = some x → (ds.drop k).foldlM (fun o e => toldF (stOf l) n e o) acc = (ds.drop (k + 1)).foldlM (fun o e => toldF (stOf l) n e o) x) ∧ (toldF (stOf l) n (ds.getD k 0) acc = none → (ds.drop k).foldlM (fun o e => toldF (stOf l) n e o) acc = none)) := fun k acc hk => by
          have e : ds.drop k = ds.getD k 0 :: ds.drop (k + 1) := by
            rw [List.drop_eq_getElem_cons hk]
            simp [List.getD, hk]
          rw [e, List.foldlM_cons]
          exact ⟨fun x hx => by rw [hx]; rfl, fun hx => by rw [hx]; rfl⟩
        have HEND : Hid (∀ acc : List ByteArray, (ds.drop ds.length).foldlM (fun o e => toldF (stOf l) n e o) acc = some acc) := fun acc => by rw [List.drop_length]; rfl
        have HS0 : Hid (R = (ds.drop 0).foldlM (fun o e => toldF (stOf l) n e o) out) := HTR.out
        obtain ⟨G, hG⟩ : ∃ G : Nat → List ByteArray → Option (List ByteArray), G = fun k acc => (ds.drop k).foldlM (fun o e => toldF (stOf l) n e o) acc := ⟨_, rfl⟩
        have HST2 : Hid (∀ k (acc : List ByteArray), k < ds.length → (∀ x, toldF (stOf l) n (ds.getD k 0) acc = some x → G k acc = G (k + 1) x) ∧ (toldF (stOf l) n (ds.getD k 0) acc = none → G k acc = none)) := by rw [hG]; exact HST.out
        have HEND2 : Hid (∀ acc : List ByteArray, G ds.length acc = some acc) := by rw [hG]; exact HEND.out
        have HS2 : Hid (R = G 0 out) := by rw [hG]; exact HS0.out
        have hdl : (cellsInt64S ds).length = ds.length := by simp
        obtain ⟨m, hm⟩ : ∃ m, m = ds.length := ⟨_, rfl⟩
        have HM : Hid (m = ds.length) := hm
        rw [← hm] at HST2 HEND2 hd4
        clear hcs hst hh HTR HST HEND HS0 hG hd0 hm
        go_enter Try.func140, Try.ntmps140
        go_wp2_with fail
        refine hf.mono ?_
        rintro e w1 ⟨rfl, rfl⟩
        go_wp2_with fail
        refine hch.mono ?_
        rintro e w2 ⟨v2, rfl, ho2, hb2⟩
        have hB2 := hb.trans (hb2.mono hb.size)
        have HK := Lib.hid (keepI_below hb2)
        have hoo := owns_below ho hb2
        have ho2' : w2.ownsRow w1.heap.size 2 1 v2 m (cellsInt64S ds) := by rw [HM.out]; exact ho2
        obtain ⟨a2, c2, hv2⟩ : ∃ a2 c2, v2 = .slice a2 m c2 := by
          rcases ho2'.2 with ⟨h1, h2⟩ | ⟨g, cap, cur, h1, _⟩
          · exact ⟨none, 0, by rw [h1, h2]⟩
          · exact ⟨_, _, h1⟩
        subst hv2
        have HDS := Lib.hid ho2'
        clear ho2 hb2 hf hch hb ho d1 ho2'
        go_wp2
        go_loopw [3, 14] (fun vo i wr => ∃ (k : Nat) (acc : List ByteArray), k ≤ m ∧ i = .int .i64 k ∧ acc.length ≤ 64 ∧ wr.ownsRow w0.heap.size 9 1 vo acc.length (cellsS acc) ∧ Hid (R = G k acc) ∧ Below w0.heap.size w0 wr ∧ Hid (KeepI w2 wr)) (fun _ i _ => m - (intOf i).toNat)
        case atStart => exact ⟨0, out, Nat.zero_le _, rfl, h64, hoo, HS2, hB2, keepI_refl _⟩
        case round =>
          rename World => wr
          obtain ⟨j, acc, hj, rfl, hal, hor, hr, hbr, hkr⟩ := hrel
          clear hB2 hoo
          by_cases hltj : j < m
          · have hdr := keepI_owns HDS.out hkr.out
            have hjd : j < ds.length := by have := HM.out; omega
            have hrd := rd_owns hdr
            obtain ⟨g2, cap2, hv2, hg2⟩ := owns_headI hdr (by omega)
            obtain ⟨rfl, rfl⟩ := hv2
            have c0 := (hdr.cellAt j (by omega)).trans (ints_get .i64 ds j hjd)
            obtain ⟨hyes, hno⟩ := HST2.out j acc hltj
            obtain ⟨x, hx⟩ : ∃ x, x = ds.getD j 0 := ⟨_, rfl⟩
            rw [← hx] at c0 hyes hno
            have hcall := IH.out x _ acc wr hbr hor hal
            have hlen := fun o => HLEN.out x acc o hal
            have HYES := Lib.hid hyes
            have HNO := Lib.hid hno
            have HLN := Lib.hid hlen
            clear hx hyes hno hlen hdr hrd hor
            generalize toldF (stOf l) n x acc = Q at hcall HYES HNO HLN
            go_wp2_with fail
            refine hcall.mono ?_
            rintro e w4 ⟨v4, rfl, hof, hb4, hk4⟩
            have HK4 := Lib.hid (keepI_trans hkr.out hk4)
            clear hcall hk4 hkr hbr c0
            cases Q with
            | none =>
              have hR := hr.out.trans (HNO.out rfl)
              subst hR
              clear hof HYES HNO HLN hr
              go_wp2
              go_ret2
              first
                | exact ⟨⟨_, rfl⟩, hb4, keepI_trans HK.out HK4.out⟩
                | exact ⟨_, rfl, (fun o h => by cases h), hb4, keepI_trans HK.out HK4.out⟩
            | some y =>
              have hR := Lib.hid (hr.out.trans (HYES.out y rfl))
              have hy := HLN.out y rfl
              have ho4 := hof y rfl
              clear hof HYES HNO HLN hr
              go_wp2
              go_roundw
              case rel => exact ⟨j + 1, y, by omega, by go_num, hy, ho4, hR, hb4, HK4⟩
              case measure => simp [intOf]; omega
          · obtain rfl : j = m := by omega
            have hR := hr.out.trans (HEND2.out acc)
            subst hR
            clear hr
            go_wp2
            go_ret2
            exact ⟨_, rfl, (fun o h => by obtain rfl := Option.some.inj h; exact hor), hbr, keepI_trans HK.out hkr.out⟩
def ToldEnd (R : Option (List ByteArray)) (w : World) (e : Ending) (w' : World) : Prop :=
  ∃ v, e = .returned (.tuple #[v, .bool R.isSome]) ∧ w'.ownsRow w.heap.size 9 1 v (R.getD []).length (cellsS (R.getD [])) ∧ Below w.heap.size w w'
theorem toldEnd_none {w w' : World} {v : Value} (ho : w'.ownsRow w.heap.size 9 1 v 0 []) (hb : Below w.heap.size w w') : ToldEnd none w (.returned (.tuple #[v, .bool false])) w' := ⟨v, rfl, ho, hb⟩
theorem toldEnd_some {w w' : World} {v : Value} {l : List ByteArray} (ho : w'.ownsRow w.heap.size 9 1 v l.length (cellsS l)) (hb : Below w.heap.size w w') : ToldEnd (some l) w (.returned (.tuple #[v, .bool true])) w' := ⟨v, rfl, ho, hb⟩
set_option maxHeartbeats 1000000 in
set_option maxRecDepth 100000 in
theorem specTold_any (va : Value) (l : List Bl) (root : Int) (w : World) (ha : RdB w va l) (hl : l.length ≤ 1048576) (hs : ∀ p ∈ l, p.2.size ≤ 1048576) :
    Calls Try.prog 67 #[va, .int .i64 root] w (ToldEnd (toldT l root) w) := by
  have hso := specStoreOk_any va l w ha hl hs
  have ho0 : ∀ W : World, w.heap.size ≤ W.heap.size → (W.alloc (.cells #[] 9)).ownsRow w.heap.size 9 1 (.slice (some ⟨W.heap.size, 0, none⟩) 0 0) 0 (cellsS []) := fun W h => World.ownsRow_lit (base := w.heap.size) (e := 9) (size := 1) W #[] 0 h (Nat.zero_le _) rfl
  have HO0 := Lib.hid ho0
  clear ho0
  cases hok : storeB l with
  | false =>
    have HR : Hid (toldT l root = none) := by show _ = _; unfold toldT; rw [hok]; rfl
    generalize toldT l root = R at HR ⊢
    have hR := HR.out
    subst hR
    rw [hok] at hso
    obtain ⟨ao, cap, rfl⟩ := rdB_shape ha
    generalize l.length = n at hso ⊢
    clear ha hs hok HR
    go_enter Try.func67, Try.ntmps67
    go_wp2_with fail
    refine hso.mono ?_
    rintro e w1 ⟨rfl, hb1⟩
    have HO := Lib.hid (HO0.out w1 hb1.size)
    have HB := Lib.hid (hb1.alloc hb1.size (.cells #[] 9))
    clear hso hb1
    go_wp2
    go_ret2
    exact toldEnd_none HO.out HB.out
  | true =>
    have HR : Hid (toldT l root = toldF (stOf l) 7 root []) := by show _ = _; unfold toldT; rw [if_pos hok]
    have HT := Lib.hid (fun v W h1 h2 => l8Told_any va l w ha hl hs 7 0 root v [] W rfl h1 h2 (by simp))
    generalize toldF (stOf l) 7 root [] = Q at HR HT
    generalize toldT l root = R at HR ⊢
    have hR := HR.out
    subst hR
    rw [hok] at hso
    obtain ⟨ao, cap, rfl⟩ := rdB_shape ha
    generalize l.length = n at hso HT ⊢
    clear ha hs hok HR
    go_enter Try.func67, Try.ntmps67
    go_wp2_with fail
    refine hso.mono ?_
    rintro e w1 ⟨rfl, hb1⟩
    have ho1 := HO0.out w1 hb1.size
    have hb2 : Below w.heap.size w (w1.alloc (.cells #[] 9)) := hb1.alloc hb1.size _
    have hcall := HT.out _ _ hb2 ho1
    clear hso hb1 ho1 hb2
    go_wp2_with fail
    refine hcall.mono ?_
    rintro e w3 ⟨v3, rfl, hof, hb3, _⟩
    clear hcall
    cases R with
    | none =>
      have HO := Lib.hid (HO0.out w3 hb3.size)
      have HB := Lib.hid (hb3.alloc hb3.size (.cells #[] 9))
      clear hof hb3
      go_wp2
      go_ret2
      exact toldEnd_none HO.out HB.out
    | some o =>
      have HO := Lib.hid (hof o rfl)
      clear hof
      go_wp2
      go_ret2
      exact toldEnd_some HO.out hb3
end Go.Proofs.Ytdiammehnakchab
