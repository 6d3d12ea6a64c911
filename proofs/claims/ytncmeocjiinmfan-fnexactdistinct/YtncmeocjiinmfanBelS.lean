/- CONTRACTS: the specification's l10Misses (who misses how often, by three rules), Lru, Fifo, Best, Distinct. -/
import Derived.Test.YtncmeocjiinmfanBelList
import Derived.Test.YtncmeocjiinmfanQueN
import Derived.Lib.Hide
import Derived.Deep.RegionHeld
import Derived.Deep.LoopGhost
import Derived.Deep.RegionLaw
namespace Go.Proofs.Ytncmeocjiinmfan
open Go.RowKit
set_option linter.unusedVariables false
theorem getD_memN {L : List Int} {k : Nat} (h : k < L.length) : L.getD k 0 ∈ L := by
  have e : L.getD k 0 = L[k] := by simp [List.getD, h]
  rw [e]
  exact List.getElem_mem h
/-- where it is at hand, of the first k -/
def AtI (H : List Int) (q : Int) (k : Nat) (z : Int) : Prop := (z < 0 ∧ z = -1 ∧ ∀ j, j < k → H.getD j 0 ≠ q) ∨ (∃ j : Nat, z = (j : Int) ∧ j < k ∧ H.getD j 0 = q)
theorem at_step {H : List Int} {q : Int} {k : Nat} {z : Int} (h : AtI H q k z) (hn : H.getD k 0 ≠ q) : AtI H q (k + 1) z := by
  rcases h with ⟨h1, h2, h3⟩ | ⟨j, h1, h2, h3⟩
  · exact Or.inl ⟨h1, h2, fun j hj => by
      by_cases e : j = k
      · rw [e]; exact hn
      · exact h3 j (by omega)⟩
  · exact Or.inr ⟨j, h1, by omega, h3⟩
theorem at_not {H : List Int} {q : Int} {z : Int} (h : AtI H q H.length z) (hz : z < 0) : q ∉ H := fun hm => by
  obtain ⟨j, hj, e⟩ := List.getElem_of_mem hm
  rcases h with ⟨_, _, h3⟩ | ⟨j, h1, _⟩
  · exact h3 j hj (by simp [List.getD, hj, e])
  · omega
theorem at_is {H : List Int} {q : Int} {z : Int} (h : AtI H q H.length z) (hz : ¬ z < 0) : ∃ j : Nat, z = (j : Int) ∧ j < H.length ∧ H.getD j 0 = q := by
  rcases h with ⟨h1, _⟩ | h
  · exact absurd h1 hz
  · exact h
theorem take_drop_erase {H : List Int} (hn : H.Nodup) {j : Nat} (hj : j < H.length) {q : Int} (hq : H.getD j 0 = q) : H.take j ++ H.drop (j + 1) = H.erase q := by
  have e : H[j] = q := by rw [← hq]; simp [List.getD, hj]
  have h1 : H.erase q = H.eraseIdx j := by
    subst e
    rw [List.erase_eq_eraseIdx_of_idxOf (i := j)]
    exact hn.idxOf_getElem j hj
  rw [h1, List.eraseIdx_eq_take_drop_succ]
/-- when x is called again behind place i, of the calls from j on -/
def NextS (c : List Int) (x : Int) (i j n : Nat) : Prop := i < j ∧ j ≤ c.length ∧ n = j + nx (c.drop j) x
theorem nx_none (c : List Int) (x : Int) : nx (c.drop c.length) x = 0 := by rw [List.drop_length]; rfl
theorem nx_at {c : List Int} {x : Int} {j : Nat} (hj : j < c.length) : nx (c.drop j) x = if c.getD j 0 = x then 0 else nx (c.drop (j + 1)) x + 1 := by
  rw [List.drop_eq_getElem_cons hj]
  have e : c[j] = c.getD j 0 := by simp [List.getD, hj]
  rw [e]
  rfl
theorem drop_at {c : List Int} {i : Nat} (hi : i < c.length) : c.drop i = c.getD i 0 :: c.drop (i + 1) := by
  rw [List.drop_eq_getElem_cons hi]
  simp [List.getD, hi]
set_option maxHeartbeats 8000000 in
set_option maxRecDepth 100000 in
theorem l10Misses_any (va : Value) (c : List Int) (r ru : Nat) (w : World) (ha : Rd w va (cellsInt64S c)) (hl : c.length ≤ 60) (hr1 : 1 ≤ r) (hr2 : r ≤ 20) (hru : ru ≤ 2) :
    Calls Try.prog 33 #[va, .int .i64 (r : Int), .int .i64 (ru : Int)] w fun e w' => e = .returned (.int .i64 (missL ru r c [] : Int)) ∧ Below w.heap.size w w' := by
  obtain ⟨i0, hi0, hz0, hz1, hz2⟩ := info_parts Try.info64
  have hla : (cellsInt64S c).length = c.length := by simp
  obtain ⟨ao, cap, hv, hcap, hx⟩ := ha
  rw [hla] at hv hcap hx
  subst hv
  have HX : Hid (∀ j, j < c.length → ∃ b off, ao = some ⟨b, off, none⟩ ∧ b < w.heap.size ∧ w.cell? ⟨b, off + j, none⟩ = some (.int .i64 (c.getD j 0))) := fun j hj => by
    obtain ⟨b, off, h1, h2, h3⟩ := hx (by intro h; rw [h] at hla; simp at hla; omega)
    exact ⟨b, off, h1, h2, (h3 j hj).trans (ints_get _ c j hj)⟩
  clear hx hla
  have HR0 : Hid (0 + missL ru r (c.drop 0) [] = missL ru r c []) := by show _ = _; rw [Nat.zero_add, List.drop_zero]
  have HEND : Hid (∀ n H R, n + missL ru r (c.drop c.length) H = R → n = R) := fun n H R h => by
    rw [List.drop_length] at h
    exact h
  have HHIT : Hid (∀ i n H R, i < c.length → c.getD i 0 ∈ H → n + missL ru r (c.drop i) H = R → n + missL ru r (c.drop (i + 1)) (hitH ru H (c.getD i 0)) = R) := fun i n H R hi hm h => by
    rw [drop_at hi, missL_hit hm] at h
    exact h
  have HNEW : Hid (∀ i n H R, i < c.length → c.getD i 0 ∉ H → n + missL ru r (c.drop i) H = R → n + 1 + missL ru r (c.drop (i + 1)) ((if H.length = r then H.eraseIdx (outI ru (c.drop (i + 1)) H) else H) ++ [c.getD i 0]) = R) := fun i n H R hi hm h => by
    rw [drop_at hi, missL_new hm] at h
    omega
  generalize missL ru r c [] = R0 at HR0 ⊢
  have hrow0 : (w.alloc (.cells #[] 2)).ownsRow w.heap.size 2 1 (.slice (some ⟨w.heap.size, 0, none⟩) 0 0) ([] : List Int).length (cellsInt64S []) := World.ownsRow_lit (base := w.heap.size) (e := 2) (size := 1) w #[] 0 (Nat.le_refl _) (Nat.zero_le _) rfl
  have hb0 := (Below.refl w.heap.size w).alloc (Nat.le_refl _) (.cells #[] 2)
  have HH0 : Hid (Hand r []) := ⟨List.nodup_nil, Nat.zero_le _⟩
  go_enter Try.func33, Try.ntmps33
  go_wp2
  go_loopw [7, 8, 9] (fun v7 v8 v9 wr => ∃ (i n : Nat) (H : List Int), v8 = .int .i64 (n : Int) ∧ v9 = .int .i64 (i : Int) ∧ i ≤ c.length ∧ n ≤ i ∧ Hid (Hand r H) ∧ H.length ≤ r ∧ Hid (n + missL ru r (c.drop i) H = R0) ∧ wr.ownsRow w.heap.size 2 1 v7 H.length (cellsInt64S H) ∧ Below w.heap.size w wr) (fun _ _ v9 _ => c.length - (intOf v9).toNat)
  case atStart => exact ⟨0, 0, [], rfl, rfl, Nat.zero_le _, Nat.le_refl _, HH0, Nat.zero_le _, HR0, hrow0, hb0⟩
  case round =>
    rename World => wr
    obtain ⟨i, n, H, rfl, rfl, hi, hn, hH, hHl, hM, ho, hb⟩ := hrel
    clear hrow0 hb0 HH0 HR0
    have hsb := hb.size
    by_cases hlt : i < c.length
    rotate_left
    · obtain rfl : i = c.length := by omega
      have HE := Lib.hid (HEND.out n H R0 hM.out)
      clear ho hM
      go_wp2
      go_ret
      exact ⟨by rw [HE.out]; rfl, hb⟩
    obtain ⟨b, off, rfl, hbl, hc0⟩ := HX.out i hlt
    have c0 := (hb.cell (p := ⟨b, off + i, none⟩) hbl).trans hc0
    have HHI := Lib.hid (fun h => HHIT.out i n H R0 hlt h hM.out)
    have HNE := Lib.hid (fun h => HNEW.out i n H R0 hlt h hM.out)
    obtain ⟨q, hq⟩ : ∃ q, q = c.getD i 0 := ⟨_, rfl⟩
    rw [← hq] at c0 HHI HNE
    have HA0 : Hid (∀ z, z = -1 → AtI H q 0 z) := fun z h => Or.inl ⟨by omega, h, fun j hj => absurd hj (Nat.not_lt_zero _)⟩
    obtain ⟨av, cv, hvv⟩ := owns_slice ho
    subst hvv
    have HCH : Hid (∀ k, k < H.length → ∃ g, av = some ⟨g, 0, none⟩ ∧ wr.cell? ⟨g, k, none⟩ = some (.int .i64 (H.getD k 0))) := fun k hk => by
      obtain ⟨g, c1, hg, _⟩ := owns_head ho (by omega)
      simp only [Value.slice.injEq, true_and] at hg
      obtain ⟨rfl, rfl⟩ := hg
      exact ⟨g, rfl, (ho.cellAt k (by omega)).trans (ints_get _ H k hk)⟩
    have hltI : (i : Int) < (c.length : Int) := by omega
    clear hq hc0 hM
    go_wp2
    go_loopw [10, 11] (fun z k wq => ∃ (kk : Nat) (zz : Int), z = .int .i64 zz ∧ k = .int .i64 (kk : Int) ∧ kk ≤ H.length ∧ -1 ≤ zz ∧ zz ≤ 100 ∧ Hid (AtI H q kk zz) ∧ Hid (∃ d, wq = wr.drewN d)) (fun _ k _ => H.length - (intOf k).toNat)
    case atStart => exact ⟨0, -1, rfl, rfl, Nat.zero_le _, by omega, by omega, HA0.out _ rfl, ⟨0, rfl⟩⟩
    case round =>
      rename World => wq
      obtain ⟨k, z, rfl, rfl, hk, hz1', hz2', hA, hdr⟩ := hrel
      obtain ⟨dd, hdd⟩ := hdr.out
      subst hdd
      by_cases hltk : k < H.length
      · obtain ⟨g, rfl, d0⟩ := HCH.out k hltk
        have HST := Lib.hid (fun h => at_step (k := k) hA.out h)
        have HYE : Hid (H.getD k 0 = q → AtI H q (k + 1) (k : Int)) := fun h => Or.inr ⟨k, rfl, by omega, h⟩
        obtain ⟨x, hx⟩ : ∃ x, x = H.getD k 0 := ⟨_, rfl⟩
        rw [← hx] at d0 HST HYE
        have hkI : (k : Int) < (H.length : Int) := by omega
        clear hx hA hdr
        by_cases hxq : x = q
        · subst hxq
          have hbq : (x == x) = true := by simp
          have HA2 := Lib.hid (HYE.out rfl)
          clear HST HYE
          go_wp2
          go_quiet (fail)
          go_wp2
          go_roundw
          case rel => exact ⟨k + 1, (k : Int), rfl, by go_num, by omega, by omega, by omega, HA2, ⟨_, rfl⟩⟩
          case measure => simp [intOf]; omega
        · have hbq : (x == q) = false := beq_eq_false_iff_ne.2 hxq
          have HA2 := Lib.hid (HST.out hxq)
          clear HST HYE hxq
          go_wp2
          go_quiet (fail)
          go_wp2
          go_roundw
          case rel => exact ⟨k + 1, z, rfl, by go_num, by omega, hz1', hz2', HA2, ⟨_, rfl⟩⟩
          case measure => simp [intOf]; omega
      obtain rfl : k = H.length := by omega
      have ho5 : (wr.drewN dd).ownsRow w.heap.size 2 1 _ _ _ := owns_below ho (below_drewN (Below.refl _ _) dd)
      have hb5 := below_drewN hb dd
      have c5 : (wr.drewN dd).cell? ⟨b, off + i, none⟩ = some (.int .i64 q) := c0
      clear hdr ho hb c0 HCH HA0
      generalize wr.drewN dd = w5 at ho5 hb5 c5 ⊢
      have hs5 := hb5.size
      by_cases hz0 : z < 0
      · have hnm := at_not hA.out hz0
        have HM2 := Lib.hid (HNE.out hnm)
        have HH2 := Lib.hid (new_hand (rule := ru) (cs := c.drop (i + 1)) hr1 hH.out hnm)
        have hz0' : ¬ (0 : Int) ≤ z := by omega
        clear hA HHI HNE hnm
        by_cases hf : H.length = r
        rotate_left
        · have hfI : ((H.length : Int) == (r : Int)) = false := beq_eq_false_iff_ne.2 (fun e => hf (by omega))
          rw [if_neg hf] at HM2 HH2
          clear hf
          have hra := (World.ownsRow_lit (base := w5.heap.size) (e := 2) (size := 1) w5 #[.int .i64 q] 1 (Nat.le_refl _) (by unfold maxLen; omega) rfl : (w5.alloc (.cells #[.int .i64 q] 2)).ownsRow w5.heap.size 2 1 (.slice (some ⟨w5.heap.size, 0, none⟩) 1 1) ([q] : List Int).length (cellsInt64S [q]))
          have hoa := ho5.alloc (.cells #[.int .i64 q] 2)
          have hsw := hb5.size
          have hba := hb5.alloc hsw (.cells #[.int .i64 q] 2)
          have hrq := rd_owns hra
          clear ho5 hra hb5
          go_wp2_with (at_builtin; refine own_step rfl _ _ rfl w.heap.size _ (.slice (some ⟨w5.heap.size, 0, none⟩) 1 1) (H) [q] rfl rfl hoa hrq (by simp; omega) (by rw [World.size_alloc]; omega) ?_)
          intro v20 w20 ho20 hg20 hi20
          have HB20 := Lib.hid (hba.grown hg20 (by rw [World.size_alloc]; omega) (fun k hk => (hoa.lt k hk).1))
          have HO20 := Lib.hid ho20
          clear ho20 hg20 hi20 hoa hba hrq
          go_wp2
          go_roundw
          case rel => exact ⟨i + 1, n + 1, H ++ [q], by go_num, by go_num, by omega, by omega, HH2, (HH2).out.2, HM2, by simpa using HO20.out, HB20.out⟩
          case measure => simp [intOf]; omega
        · have hfI : ((H.length : Int) == (r : Int)) = true := by rw [hf]; simp
          rw [if_pos hf] at HM2 HH2
          have hHp : 1 ≤ H.length := by omega
          clear hf
          by_cases hru2 : ru = 2
          rotate_left
          · have hruI : ((ru : Int) == 2) = false := beq_eq_false_iff_ne.2 (by omega)
            have e : outI ru (c.drop (i + 1)) H = 0 := by unfold outI; rw [if_neg hru2]
            rw [e] at HM2 HH2
            clear e hru2
            obtain ⟨u1, hsl1, ho1, hub1⟩ := own_take ho5 0 (by omega)
            obtain ⟨u2, hsl2, hq2⟩ := que_from (que_owns ho5) (0 + 1) (by omega)
            rw [show ((0 : Nat) : Int) = 0 from rfl] at hsl1
            rw [show ((0 + 1 : Nat) : Int) = 1 from rfl] at hsl2
            have hw1 : IntKind.i64.wrap 1 = 1 := IntWalk.i64_in _ ⟨by omega, by omega⟩
            have hal := ((Below.refl w5.heap.size w5).alloc (Nat.le_refl _) (.cells #[] 2)).drew
            have hlit : ((w5.alloc (.cells #[] 2)).drew).ownsRow w5.heap.size 2 1 (.slice (some ⟨w5.heap.size, 0, none⟩) 0 0) ([] : List Int).length (cellsInt64S []) := (World.ownsRow_lit (base := w5.heap.size) (e := 2) (size := 1) w5 #[] 0 (Nat.le_refl _) (Nat.zero_le _) rfl).drew
            have hr1' := rd_below (rd_owns ho1) hal
            have HQ2 := Lib.hid (fun (W : World) (h : Below w5.heap.size w5 W) => que_rd (que_below hq2 h))
            have hsA : w5.heap.size ≤ ((w5.alloc (.cells #[] 2)).drew).heap.size := hal.size
            have htl : (H.take 0).length + (H.drop (0 + 1)).length ≤ 20 := by rw [List.length_take, List.length_drop]; omega
            have HCW : Hid (∀ W : World, Below w5.heap.size w5 W → W.cell? ⟨b, off + i, none⟩ = some (.int .i64 q)) := fun W h => (h.cell (p := ⟨b, off + i, none⟩) (by have := hb5.size; show b < _; omega)).trans c5
            have hsW := hb5.size
            clear hq2 ho1
            go_wp2
            go_region_law (first
              | (refine step_ownN rfl (.tmp 99) (.tmp 102) rfl w5.heap.size (.slice (some ⟨w5.heap.size, 0, none⟩) 0 0) u1 [] (H.take 0) (by simp [Act.eval]) (by simp [Act.eval]) hlit hr1' (by simp <;> omega) hsA ?_; intro v8 w8 ho8 hg8 hi8; have hB8 : Below w5.heap.size w5 w8 := hal.grown hg8 hsA (fun j e => by have e2 : w5.heap.size = j := Option.some.inj e; omega))
              | (refine step_ownN rfl (.tmp 103) (.tmp 107) rfl w5.heap.size v8 u2 ([] ++ H.take 0) (H.drop (0 + 1)) (by simp [Act.eval]) (by simp [Act.eval]) ho8 (HQ2.out _ hB8) (by simp <;> omega) (by have := hB8.size; omega) ?_; intro v9 w9 ho9 hg9 hi9; have hB9 : Below w5.heap.size w5 w9 := hB8.grown hg9 hB8.size (fun j e => (ho8.lt j e).1)))
            all_goals
              have hoE : w9.ownsRow w.heap.size 2 1 v9 (H.eraseIdx 0).length (cellsInt64S (H.eraseIdx 0)) := by
                rw [List.eraseIdx_eq_take_drop_succ]
                exact owns_base (by simpa using ho9) hsW
              have hbE := hb5.trans (hB9.mono hsW)
              have cE := HCW.out w9 hB9
              have hlE : (H.eraseIdx 0).length ≤ 20 := by have := List.length_eraseIdx_le H 0; omega
              generalize H.eraseIdx 0 = E at hoE hlE HH2 HM2
              obtain ⟨aE, capE, hvE⟩ := owns_slice hoE
              subst hvE
              clear ho9 hg9 hi9 hB9 ho8 hg8 hi8 hB8 hlit hal hr1' HQ2 HCW ho5 hb5 c5 htl
              have hra := (World.ownsRow_lit (base := w9.heap.size) (e := 2) (size := 1) w9 #[.int .i64 q] 1 (Nat.le_refl _) (by unfold maxLen; omega) rfl : (w9.alloc (.cells #[.int .i64 q] 2)).ownsRow w9.heap.size 2 1 (.slice (some ⟨w9.heap.size, 0, none⟩) 1 1) ([q] : List Int).length (cellsInt64S [q]))
              have hoa := hoE.alloc (.cells #[.int .i64 q] 2)
              have hsw := hbE.size
              have hba := hbE.alloc hsw (.cells #[.int .i64 q] 2)
              have hrq := rd_owns hra
              clear hoE hra hbE
              go_wp2_with (at_builtin; refine own_step rfl _ _ rfl w.heap.size _ (.slice (some ⟨w9.heap.size, 0, none⟩) 1 1) (E) [q] rfl rfl hoa hrq (by simp; omega) (by rw [World.size_alloc]; omega) ?_)
              intro v20 w20 ho20 hg20 hi20
              have HB20 := Lib.hid (hba.grown hg20 (by rw [World.size_alloc]; omega) (fun k hk => (hoa.lt k hk).1))
              have HO20 := Lib.hid ho20
              clear ho20 hg20 hi20 hoa hba hrq
              go_wp2
              go_roundw
              case rel => exact ⟨i + 1, n + 1, E ++ [q], by go_num, by go_num, by omega, by omega, HH2, (HH2).out.2, HM2, by simpa using HO20.out, HB20.out⟩
              case measure => simp [intOf]; omega
          · have hruI : ((ru : Int) == 2) = true := by rw [hru2]; rfl
            have e : outI ru (c.drop (i + 1)) H = (farK (c.drop (i + 1)) H H.length).2 := by unfold outI; rw [if_pos hru2]
            rw [e] at HM2 HH2
            have HCH : Hid (∀ k, k < H.length → ∃ g, av = some ⟨g, 0, none⟩ ∧ w5.cell? ⟨g, k, none⟩ = some (.int .i64 (H.getD k 0))) := fun k hk => by
              obtain ⟨g, c1, hg, _⟩ := owns_head ho5 (by omega)
              simp only [Value.slice.injEq, true_and] at hg
              obtain ⟨rfl, rfl⟩ := hg
              exact ⟨g, rfl, (ho5.cellAt k (by omega)).trans (ints_get _ H k hk)⟩
            have HCC : Hid (∀ j, j < c.length → w5.cell? ⟨b, off + j, none⟩ = some (.int .i64 (c.getD j 0))) := fun j hj => by
              obtain ⟨b2, off2, h1, h2, h3⟩ := HX.out j hj
              simp only [Option.some.injEq, Addr.mk.injEq, and_true] at h1
              obtain ⟨rfl, rfl⟩ := h1
              exact (hb5.cell (p := ⟨b, off + j, none⟩) h2).trans h3
            have HF0 : Hid ((0, (farK (c.drop (i + 1)) H 0)) = ((0 : Nat), ((-1 : Int), (0 : Nat)))) := rfl
            have HFS : Hid (∀ k, farK (c.drop (i + 1)) H (k + 1) = if (farK (c.drop (i + 1)) H k).1 < (nx (c.drop (i + 1)) (H.getD k 0) : Int) then ((nx (c.drop (i + 1)) (H.getD k 0) : Int), k) else farK (c.drop (i + 1)) H k) := fun k => rfl
            have HFL : Hid (∀ k, -1 ≤ (farK (c.drop (i + 1)) H k).1 ∧ ((farK (c.drop (i + 1)) H k).2 = 0 ∨ (farK (c.drop (i + 1)) H k).2 < k)) := fun k => by
              rcases farK_is (cs := c.drop (i + 1)) (H := H) k with ⟨h0, h1⟩ | ⟨h1, h2, _⟩
              · rw [h1]; exact ⟨by omega, Or.inl rfl⟩
              · exact ⟨by omega, Or.inr h1⟩
            have HFE : Hid ((farK (c.drop (i + 1)) H H.length).2 < H.length) := by
              have := outI_lt (rule := ru) (cs := c.drop (i + 1)) (H := H) (by omega)
              rw [e] at this
              exact this
            have HNX0 : Hid (∀ x, c.length = c.length + nx (c.drop c.length) x) := fun x => by rw [nx_none]; rfl
            have HNXS : Hid (∀ x j, j < c.length → nx (c.drop j) x = if c.getD j 0 = x then 0 else nx (c.drop (j + 1)) x + 1) := fun x j hj => nx_at hj
            have HNXB : Hid (∀ x, nx (c.drop (i + 1)) x ≤ 100) := fun x => by
              have : ∀ (l : List Int), nx l x ≤ l.length := fun l => by
                induction l with
                | nil => exact Nat.le_refl _
                | cons q t ih =>
                  show (if q = x then 0 else nx t x + 1) ≤ _
                  rw [List.length_cons]
                  split <;> omega
              have h2 := this (c.drop (i + 1))
              rw [List.length_drop] at h2
              omega
            generalize hFK : farK (c.drop (i + 1)) H = FK at HM2 HH2 HF0 HFS HFL HFE
            clear e hru2 hFK
            go_wp2
            go_loopw [12, 13, 14] (fun v12 v13 v14 wq => ∃ (k o : Nat) (f : Int), v14 = .int .i64 (k : Int) ∧ v12 = .int .i64 (o : Int) ∧ v13 = .int .i64 f ∧ k ≤ H.length ∧ o ≤ 20 ∧ -1 ≤ f ∧ f ≤ 300 ∧ Hid (o = (FK k).2 ∧ (f = -1 ∧ (FK k).1 = -1 ∨ f = (i : Int) + 1 + (FK k).1 ∧ 0 ≤ (FK k).1)) ∧ Hid (∃ d, wq = w5.drewN d)) (fun _ _ v14 _ => H.length - (intOf v14).toNat)
            case atStart =>
              have h0 := HF0.out
              simp only [Prod.mk.injEq, true_and] at h0
              exact ⟨0, 0, -1, rfl, rfl, rfl, Nat.zero_le _, by omega, by omega, by omega, ⟨by rw [h0], Or.inl ⟨rfl, by rw [h0]⟩⟩, ⟨0, rfl⟩⟩
            case round =>
              rename World => wq
              obtain ⟨k, o, f, rfl, rfl, rfl, hk, ho20, hf1, hf2, hFk, hdr⟩ := hrel
              obtain ⟨dd, hdd⟩ := hdr.out
              subst hdd
              by_cases hltk : k < H.length
              focus
                obtain ⟨g, rfl, d0⟩ := HCH.out k hltk
                have hkI : (k : Int) < (H.length : Int) := by omega
                obtain ⟨x, hx⟩ : ∃ x, x = H.getD k 0 := ⟨_, rfl⟩
                have HFK1 := HFS.out k
                rw [← hx] at d0 HFK1
                have HFK2 := Lib.hid HFK1
                have hnxb := HNXB.out x
                clear hx hdr HFK1
                go_wp2
                go_loopw [15, 16] (fun v15 v16 wj => ∃ (jj nn : Nat) (jz : Int), v16 = .int .i64 jz ∧ v15 = .int .i64 (nn : Int) ∧ jz = (jj : Int) - 1 ∧ i + 1 ≤ jj ∧ jj ≤ c.length ∧ nn ≤ 200 ∧ Hid (nn = jj + nx (c.drop jj) x) ∧ Hid (∃ d, wj = w5.drewN d)) (fun _ v16 _ => (intOf v16).toNat)
                case atStart => exact ⟨c.length, c.length, _, rfl, rfl, rfl, by omega, Nat.le_refl _, by omega, HNX0.out x, ⟨_, rfl⟩⟩
                case round =>
                  rename World => wj
                  obtain ⟨jj, nn, jz, rfl, rfl, hjz, hj1, hj2, hnn, hnx, hdr⟩ := hrel
                  obtain ⟨d2, hd2⟩ := hdr.out
                  subst hd2
                  by_cases hji : i + 1 < jj
                  · obtain ⟨jm, rfl⟩ : ∃ jm, jj = jm + 1 := ⟨jj - 1, by omega⟩
                    have hjm : jz = (jm : Int) := by omega
                    subst hjm
                    have d1 := HCC.out jm (by omega)
                    have hns := HNXS.out x jm (by omega)
                    have hjI : (i : Int) < (jm : Int) := by omega
                    have hjc : (jm : Int) < (c.length : Int) := by omega
                    obtain ⟨y, hy⟩ : ∃ y, y = c.getD jm 0 := ⟨_, rfl⟩
                    rw [← hy] at d1 hns
                    have HNS := Lib.hid hns
                    clear hy hdr hns hjz
                    by_cases hyx : y = x
                    · subst hyx
                      have hbq : (y == y) = true := by simp
                      have HN2 : Hid (jm = jm + nx (c.drop jm) y) := by show _ = _; rw [HNS.out, if_pos rfl]; rfl
                      clear HNS hnx
                      go_wp2
                      go_quiet (fail)
                      go_wp2
                      go_roundw
                      case rel => exact ⟨jm, jm, _, rfl, rfl, rfl, by omega, by omega, by omega, HN2, ⟨_, rfl⟩⟩
                      case measure => simp [intOf] <;> omega
                    · have hbq : (y == x) = false := beq_eq_false_iff_ne.2 hyx
                      have HN2 : Hid (nn = jm + nx (c.drop jm) x) := by
                        show _ = _
                        rw [HNS.out, if_neg hyx]
                        have := hnx.out
                        omega
                      clear HNS hnx hyx
                      go_wp2
                      go_quiet (fail)
                      go_wp2
                      go_roundw
                      case rel => exact ⟨jm, nn, _, rfl, rfl, rfl, by omega, by omega, hnn, HN2, ⟨_, rfl⟩⟩
                      case measure => simp [intOf] <;> omega
                  · obtain rfl : jj = i + 1 := by omega
                    have hjz2 : jz = (i : Int) := by omega
                    subst hjz2
                    have hjI : ¬ (i : Int) < (i : Int) := by omega
                    have hnn2 := hnx.out
                    clear hnx hdr hjz
                    by_cases hfn : f < (nn : Int)
                    · have HF2 : Hid (k = (FK (k + 1)).2 ∧ ((nn : Int) = -1 ∧ (FK (k + 1)).1 = -1 ∨ (nn : Int) = (i : Int) + 1 + (FK (k + 1)).1 ∧ 0 ≤ (FK (k + 1)).1)) := by
                        have h1 : (FK k).1 < (nx (c.drop (i + 1)) x : Int) := by
                          rcases hFk.out.2 with ⟨h, h2⟩ | ⟨h, h2⟩ <;> omega
                        show _ ∧ _
                        rw [HFK2.out, if_pos h1]
                        exact ⟨rfl, Or.inr ⟨by simp only; omega, by simp only; omega⟩⟩
                      clear HFK2 hFk hnn2
                      go_wp2
                      go_roundw
                      case rel => exact ⟨k + 1, k, (nn : Int), by go_num, rfl, rfl, by omega, by omega, by omega, by omega, HF2, ⟨_, rfl⟩⟩
                      case measure => simp [intOf]; omega
                    · have HF2 : Hid (o = (FK (k + 1)).2 ∧ (f = -1 ∧ (FK (k + 1)).1 = -1 ∨ f = (i : Int) + 1 + (FK (k + 1)).1 ∧ 0 ≤ (FK (k + 1)).1)) := by
                        have h1 : ¬ (FK k).1 < (nx (c.drop (i + 1)) x : Int) := by
                          rcases hFk.out.2 with ⟨h, h2⟩ | ⟨h, h2⟩ <;> omega
                        show _ ∧ _
                        rw [HFK2.out, if_neg h1]
                        exact hFk.out
                      clear HFK2 hFk hnn2
                      go_wp2
                      go_roundw
                      case rel => exact ⟨k + 1, o, f, by go_num, rfl, rfl, by omega, ho20, hf1, hf2, HF2, ⟨_, rfl⟩⟩
                      case measure => simp [intOf]; omega
              obtain rfl : k = H.length := by omega
              have ho6 : (w5.drewN dd).ownsRow w.heap.size 2 1 _ _ _ := owns_below ho5 (below_drewN (Below.refl _ _) dd)
              have hb6 := below_drewN hb5 dd
              have c6 : (w5.drewN dd).cell? ⟨b, off + i, none⟩ = some (.int .i64 q) := c5
              have hoF := hFk.out.1
              rw [← hoF] at HM2 HH2
              have hoL : o < H.length := by rw [hoF]; exact HFE.out
              have hkI : ¬ (H.length : Int) < (H.length : Int) := by omega
              clear hdr hFk hoF HFS HFL HFE HF0 HCH HCC HNX0 HNXS HNXB ho5 hb5 c5
              generalize w5.drewN dd = w6 at ho6 hb6 c6 ⊢
              obtain ⟨u1, hsl1, ho1, hub1⟩ := own_take ho6 o (by omega)
              obtain ⟨u2, hsl2, hq2⟩ := que_from (que_owns ho6) (o + 1) (by omega)
              have hsl1 := hsl1
              rw [show ((o + 1 : Nat) : Int) = (o : Int) + 1 by omega] at hsl2
              have hw64 : IntKind.i64.wrap ((o : Int) + 1) = (o : Int) + 1 := IntWalk.i64_in _ ⟨by omega, by omega⟩
              have hal := ((Below.refl w6.heap.size w6).alloc (Nat.le_refl _) (.cells #[] 2)).drew
              have hlit : ((w6.alloc (.cells #[] 2)).drew).ownsRow w6.heap.size 2 1 (.slice (some ⟨w6.heap.size, 0, none⟩) 0 0) ([] : List Int).length (cellsInt64S []) := (World.ownsRow_lit (base := w6.heap.size) (e := 2) (size := 1) w6 #[] 0 (Nat.le_refl _) (Nat.zero_le _) rfl).drew
              have hr1' := rd_below (rd_owns ho1) hal
              have HQ2 := Lib.hid (fun (W : World) (h : Below w6.heap.size w6 W) => que_rd (que_below hq2 h))
              have hsA : w6.heap.size ≤ ((w6.alloc (.cells #[] 2)).drew).heap.size := hal.size
              have htl : (H.take o).length + (H.drop (o + 1)).length ≤ 20 := by rw [List.length_take, List.length_drop]; omega
              have HCW : Hid (∀ W : World, Below w6.heap.size w6 W → W.cell? ⟨b, off + i, none⟩ = some (.int .i64 q)) := fun W h => (h.cell (p := ⟨b, off + i, none⟩) (by have := hb6.size; show b < _; omega)).trans c6
              have hsW := hb6.size
              clear hq2 ho1
              go_wp2
              go_region_law (first
                | (refine step_ownN rfl (.tmp 99) (.tmp 102) rfl w6.heap.size (.slice (some ⟨w6.heap.size, 0, none⟩) 0 0) u1 [] (H.take o) (by simp [Act.eval]) (by simp [Act.eval]) hlit hr1' (by simp <;> omega) hsA ?_; intro v8 w8 ho8 hg8 hi8; have hB8 : Below w6.heap.size w6 w8 := hal.grown hg8 hsA (fun j e => by have e2 : w6.heap.size = j := Option.some.inj e; omega))
                | (refine step_ownN rfl (.tmp 103) (.tmp 107) rfl w6.heap.size v8 u2 ([] ++ H.take o) (H.drop (o + 1)) (by simp [Act.eval]) (by simp [Act.eval]) ho8 (HQ2.out _ hB8) (by simp <;> omega) (by have := hB8.size; omega) ?_; intro v9 w9 ho9 hg9 hi9; have hB9 : Below w6.heap.size w6 w9 := hB8.grown hg9 hB8.size (fun j e => (ho8.lt j e).1)))
              all_goals
                have hoE : w9.ownsRow w.heap.size 2 1 v9 (H.eraseIdx o).length (cellsInt64S (H.eraseIdx o)) := by
                  rw [List.eraseIdx_eq_take_drop_succ]
                  exact owns_base (by simpa using ho9) hsW
                have hbE := hb6.trans (hB9.mono hsW)
                have cE := HCW.out w9 hB9
                have hlE : (H.eraseIdx o).length ≤ 20 := by have := List.length_eraseIdx_le H o; omega
                generalize H.eraseIdx o = E at hoE hlE HH2 HM2
                obtain ⟨aE, capE, hvE⟩ := owns_slice hoE
                subst hvE
                clear ho9 hg9 hi9 hB9 ho8 hg8 hi8 hB8 hlit hal hr1' HQ2 HCW ho6 hb6 c6 htl
                have hra := (World.ownsRow_lit (base := w9.heap.size) (e := 2) (size := 1) w9 #[.int .i64 q] 1 (Nat.le_refl _) (by unfold maxLen; omega) rfl : (w9.alloc (.cells #[.int .i64 q] 2)).ownsRow w9.heap.size 2 1 (.slice (some ⟨w9.heap.size, 0, none⟩) 1 1) ([q] : List Int).length (cellsInt64S [q]))
                have hoa := hoE.alloc (.cells #[.int .i64 q] 2)
                have hsw := hbE.size
                have hba := hbE.alloc hsw (.cells #[.int .i64 q] 2)
                have hrq := rd_owns hra
                clear hoE hra hbE
                go_wp2_with (at_builtin; refine own_step rfl _ _ rfl w.heap.size _ (.slice (some ⟨w9.heap.size, 0, none⟩) 1 1) (E) [q] rfl rfl hoa hrq (by simp; omega) (by rw [World.size_alloc]; omega) ?_)
                intro v20 w20 ho20 hg20 hi20
                have HB20 := Lib.hid (hba.grown hg20 (by rw [World.size_alloc]; omega) (fun k hk => (hoa.lt k hk).1))
                have HO20 := Lib.hid ho20
                clear ho20 hg20 hi20 hoa hba hrq
                go_wp2
                go_roundw
                case rel => exact ⟨i + 1, n + 1, E ++ [q], by go_num, by go_num, by omega, by omega, HH2, (HH2).out.2, HM2, by simpa using HO20.out, HB20.out⟩
                case measure => simp [intOf]; omega
      · obtain ⟨j, rfl, hj, hjq⟩ := at_is hA.out hz0
        have hmem : q ∈ H := by rw [← hjq]; exact getD_memN hj
        have HM2 := Lib.hid (HHI.out hmem)
        obtain ⟨hh1, hh2⟩ := hitH_hand (rule := ru) hH.out hmem
        have HH2 := Lib.hid hh1
        have hz0' : (0 : Int) ≤ (j : Int) := by omega
        by_cases hru0 : ru = 0
        · have hruI : ((ru : Int) == 0) = true := by rw [hru0]; rfl
          have e : hitH ru H q = H.take j ++ H.drop (j + 1) ++ [q] := by
            unfold hitH
            rw [if_pos hru0, take_drop_erase hH.out.1 hj hjq]
          rw [e] at HM2 HH2 hh2
          obtain ⟨u1, hsl1, ho1, hub1⟩ := own_take ho5 j (by omega)
          obtain ⟨u2, hsl2, hq2⟩ := que_from (que_owns ho5) (j + 1) (by omega)
          rw [show ((j + 1 : Nat) : Int) = (j : Int) + 1 by omega] at hsl2
          have hw64 : IntKind.i64.wrap ((j : Int) + 1) = (j : Int) + 1 := IntWalk.i64_in _ ⟨by omega, by omega⟩
          have hal := ((Below.refl w5.heap.size w5).alloc (Nat.le_refl _) (.cells #[] 2)).drew
          have hlit : ((w5.alloc (.cells #[] 2)).drew).ownsRow w5.heap.size 2 1 (.slice (some ⟨w5.heap.size, 0, none⟩) 0 0) ([] : List Int).length (cellsInt64S []) := (World.ownsRow_lit (base := w5.heap.size) (e := 2) (size := 1) w5 #[] 0 (Nat.le_refl _) (Nat.zero_le _) rfl).drew
          have hr1' := rd_below (rd_owns ho1) hal
          have HQ2 := Lib.hid (fun (W : World) (h : Below w5.heap.size w5 W) => que_rd (que_below hq2 h))
          have HC5 : Hid (∀ W : World, Below w5.heap.size w5 W → W.cell? ⟨b, off + i, none⟩ = some (.int .i64 q)) := fun W h => (h.cell (p := ⟨b, off + i, none⟩) (by show b < _; omega)).trans c5
          have hsA : w5.heap.size ≤ ((w5.alloc (.cells #[] 2)).drew).heap.size := hal.size
          have htl : (H.take j).length + (H.drop (j + 1)).length ≤ 20 := by rw [List.length_take, List.length_drop]; omega
          clear hq2 hA HHI HNE hh1 hmem hjq hru0 e
          go_wp2
          have HQL : Hid (∀ (W : World) (B : Nat), B ≤ W.heap.size → (W.alloc (.cells #[.int .i64 q] 2)).ownsRow B 2 1 (.slice (some ⟨W.heap.size, 0, none⟩) 1 1) ([q] : List Int).length (cellsInt64S [q])) := fun W B hB => World.ownsRow_lit (base := B) (e := 2) (size := 1) W #[.int .i64 q] 1 hB (by unfold maxLen; omega) rfl
          have hq0 := HQL.out ((w5.alloc (.cells #[] 2)).drew) w5.heap.size hsA
          have hz5 : ((w5.alloc (.cells #[] 2)).drew).heap.size = w5.heap.size + 1 := World.size_alloc _ _
          have hal2 : Below w5.heap.size w5 (((w5.alloc (.cells #[] 2)).alloc (.cells #[.int .i64 q] 2)).drew) := hal.alloc hsA _
          have hlit2 : (((w5.alloc (.cells #[] 2)).alloc (.cells #[.int .i64 q] 2)).drew).ownsRow w5.heap.size 2 1 (.slice (some ⟨w5.heap.size, 0, none⟩) 0 0) ([] : List Int).length (cellsInt64S []) := hlit.alloc _
          have hq2' : (((w5.alloc (.cells #[] 2)).alloc (.cells #[.int .i64 q] 2)).drew).ownsRow w5.heap.size 2 1 (.slice (some ⟨w5.heap.size + 1, 0, none⟩) 1 1) ([q] : List Int).length (cellsInt64S [q]) := by rw [← hz5]; exact hq0
          have hr1b := rd_below (rd_owns ho1) hal2
          have hsB := hal2.size
          have hz6 : (((w5.alloc (.cells #[] 2)).alloc (.cells #[.int .i64 q] 2)).drew).heap.size = w5.heap.size + 2 := by show ((w5.alloc (.cells #[] 2)).alloc (.cells #[.int .i64 q] 2)).heap.size = _; rw [World.size_alloc, World.size_alloc]
          have c5a := HC5.out ((w5.alloc (.cells #[] 2)).drew) hal
          have c5b : (w5.alloc (.cells #[] 2)).cell? ⟨b, off + i, none⟩ = some (.int .i64 q) := c5a
          have hz7 : (w5.alloc (.cells #[.int .i64 q] 2)).heap.size = w5.heap.size + 1 := World.size_alloc _ _
          have hal3 : Below w5.heap.size w5 (((w5.alloc (.cells #[.int .i64 q] 2)).alloc (.cells #[] 2)).drew) := (((Below.refl w5.heap.size w5).alloc (Nat.le_refl _) (.cells #[.int .i64 q] 2)).alloc (by omega) (.cells #[] 2)).drew
          have hlit3 : (((w5.alloc (.cells #[.int .i64 q] 2)).alloc (.cells #[] 2)).drew).ownsRow w5.heap.size 2 1 (.slice (some ⟨w5.heap.size + 1, 0, none⟩) 0 0) ([] : List Int).length (cellsInt64S []) := by
            rw [← hz7]
            exact (World.ownsRow_lit (base := w5.heap.size) (e := 2) (size := 1) (w5.alloc (.cells #[.int .i64 q] 2)) #[] 0 (by omega) (Nat.zero_le _) rfl).drew
          have hq3' : (((w5.alloc (.cells #[.int .i64 q] 2)).alloc (.cells #[] 2)).drew).ownsRow w5.heap.size 2 1 (.slice (some ⟨w5.heap.size, 0, none⟩) 1 1) ([q] : List Int).length (cellsInt64S [q]) := ((HQL.out w5 w5.heap.size (Nat.le_refl _)).alloc _).drew
          have hr1c := rd_below (rd_owns ho1) hal3
          have hsC := hal3.size
          have hz8 : (((w5.alloc (.cells #[.int .i64 q] 2)).alloc (.cells #[] 2)).drew).heap.size = w5.heap.size + 2 := by show ((w5.alloc (.cells #[.int .i64 q] 2)).alloc (.cells #[] 2)).heap.size = _; rw [World.size_alloc, World.size_alloc]
          go_region_law (first
            | (refine step_ownN rfl (.tmp 44) (.tmp 47) rfl w5.heap.size (.slice (some ⟨w5.heap.size + 1, 0, none⟩) 0 0) u1 [] (H.take j) (by simp [Act.eval]) (by simp [Act.eval]) hlit3 hr1c (by simp; omega) hsC ?_; intro v8 w8 ho8 hg8 hi8; have hB8 : Below w5.heap.size w5 w8 := hal3.grown hg8 hsC (fun j e => by have e2 : w5.heap.size + 1 = j := Option.some.inj e; omega); have hqh := owns_grown hq3' hg8 (fun k hk h => by have e2 : w5.heap.size + 1 = k := Option.some.inj hk; have e3 : w5.heap.size = k := Option.some.inj h; omega))
            | (refine step_ownN rfl (.tmp 44) (.tmp 47) rfl w5.heap.size (.slice (some ⟨w5.heap.size, 0, none⟩) 0 0) u1 [] (H.take j) (by simp [Act.eval]) (by simp [Act.eval]) hlit hr1' (by simp; omega) hsA ?_; intro v8 w8 ho8 hg8 hi8; have hB8 : Below w5.heap.size w5 w8 := hal.grown hg8 hsA (fun j e => by have e2 : w5.heap.size = j := Option.some.inj e; omega); have c8 := HC5.out w8 hB8; have c8' := HC5.out (w8.alloc (.cells #[.int .i64 q] 2)) (hB8.alloc hB8.size _))
            | (refine step_ownN rfl (.tmp 44) (.tmp 47) rfl w5.heap.size (.slice (some ⟨w5.heap.size, 0, none⟩) 0 0) u1 [] (H.take j) (by simp [Act.eval]) (by simp [Act.eval]) hlit2 hr1b (by simp; omega) hsB ?_; intro v8 w8 ho8 hg8 hi8; have hB8 : Below w5.heap.size w5 w8 := hal2.grown hg8 hsB (fun j e => by have e2 : w5.heap.size = j := Option.some.inj e; omega); have hqe := owns_grown hq2' hg8 (fun k hk h => by have e2 : w5.heap.size = k := Option.some.inj hk; have e3 : w5.heap.size + 1 = k := Option.some.inj h; omega))
            | (refine step_ownN rfl (.tmp 48) (.tmp 52) rfl w5.heap.size v8 u2 ([] ++ H.take j) (H.drop (j + 1)) (by simp [Act.eval]) (by simp [Act.eval]) ho8 (HQ2.out _ hB8) (by simp; omega) (by have := hB8.size; omega) ?_; intro v9 w9 ho9 hg9 hi9; have hB9 : Below w5.heap.size w5 w9 := hB8.grown hg9 hB8.size (fun j e => (ho8.lt j e).1); have c9 := HC5.out w9 hB9; have hqk := owns_grown hqh hg9 (fun k hk h => by have e3 : w5.heap.size = k := Option.some.inj h; rcases hi8 k hk with h4 | h4; (have e2 : w5.heap.size + 1 = k := Option.some.inj h4; omega); omega))
            | (refine step_ownN rfl (.tmp 48) (.tmp 52) rfl w5.heap.size v8 u2 ([] ++ H.take j) (H.drop (j + 1)) (by simp [Act.eval]) (by simp [Act.eval]) ho8 (HQ2.out _ hB8) (by simp; omega) (by have := hB8.size; omega) ?_; intro v9 w9 ho9 hg9 hi9; have hB9 : Below w5.heap.size w5 w9 := hB8.grown hg9 hB8.size (fun j e => (ho8.lt j e).1); have c9 := HC5.out w9 hB9; have hqf := owns_grown hqe hg9 (fun k hk h => by have e3 : w5.heap.size + 1 = k := Option.some.inj h; rcases hi8 k hk with h4 | h4; (have e2 : w5.heap.size = k := Option.some.inj h4; omega); omega))
            | (refine step_ownN rfl (.tmp 48) (.tmp 52) rfl w5.heap.size v8 u2 ([] ++ H.take j) (H.drop (j + 1)) (by simp [Act.eval]) (by simp [Act.eval]) ho8 (HQ2.out _ hB8) (by simp; omega) (by have := hB8.size; omega) ?_; intro v9 w9 ho9 hg9 hi9; have hB9 : Below w5.heap.size w5 w9 := hB8.grown hg9 hB8.size (fun j e => (ho8.lt j e).1); have c9 := HC5.out w9 hB9)
            | (refine step_ownN rfl (.tmp 48) (.tmp 52) rfl w5.heap.size v8 u2 ([] ++ H.take j) (H.drop (j + 1)) (by simp [Act.eval]) (by simp [Act.eval]) (ho8.alloc _) (HQ2.out _ (hB8.alloc hB8.size _)) (by simp; omega) (by have := hB8.size; rw [World.size_alloc]; omega) ?_; intro v9 w9 ho9 hg9 hi9; have hB9 : Below w5.heap.size w5 w9 := (hB8.alloc hB8.size _).grown hg9 (by have := hB8.size; rw [World.size_alloc]; omega) (fun j e => (ho8.lt j e).1); have hqg := owns_grown (HQL.out w8 w8.heap.size (Nat.le_refl _)) hg9 (fun k hk h => by have e3 : w8.heap.size = k := Option.some.inj h; have := (ho8.lt k hk).2; omega))
            | (refine step_ownN rfl (.tmp 53) (.tmp 58) rfl w5.heap.size v9 (.slice (some ⟨w9.heap.size, 0, none⟩) 1 1) ([] ++ H.take j ++ H.drop (j + 1)) [q] (by simp [Act.eval]) (by simp [Act.eval]) (ho9.alloc _) (rd_owns (HQL.out w9 w9.heap.size (Nat.le_refl _))) (by simp; omega) (by have := hB9.size; rw [World.size_alloc]; omega) ?_; intro v10 w10 ho10 hg10 hi10; have hB10 : Below w5.heap.size w5 w10 := (hB9.alloc hB9.size _).grown hg10 (by have := hB9.size; rw [World.size_alloc]; omega) (fun j e => (ho9.lt j e).1))
            | (refine step_ownN rfl (.tmp 53) (.tmp 58) rfl w5.heap.size v9 (.slice (some ⟨w8.heap.size, 0, none⟩) 1 1) ([] ++ H.take j ++ H.drop (j + 1)) [q] (by simp [Act.eval]) (by simp [Act.eval]) ho9 (rd_owns hqg) (by simp; omega) (by have := hB9.size; omega) ?_; intro v10 w10 ho10 hg10 hi10; have hB10 : Below w5.heap.size w5 w10 := hB9.grown hg10 hB9.size (fun j e => (ho9.lt j e).1))
            | (refine step_ownN rfl (.tmp 53) (.tmp 58) rfl w5.heap.size v9 (.slice (some ⟨w5.heap.size, 0, none⟩) 1 1) ([] ++ H.take j ++ H.drop (j + 1)) [q] (by simp [Act.eval]) (by simp [Act.eval]) ho9 (rd_owns hqk) (by simp; omega) (by have := hB9.size; omega) ?_; intro v10 w10 ho10 hg10 hi10; have hB10 : Below w5.heap.size w5 w10 := hB9.grown hg10 hB9.size (fun j e => (ho9.lt j e).1))
            | (refine step_ownN rfl (.tmp 53) (.tmp 58) rfl w5.heap.size v9 (.slice (some ⟨w5.heap.size + 1, 0, none⟩) 1 1) ([] ++ H.take j ++ H.drop (j + 1)) [q] (by simp [Act.eval]) (by simp [Act.eval]) ho9 (rd_owns hqf) (by simp; omega) (by have := hB9.size; omega) ?_; intro v10 w10 ho10 hg10 hi10; have hB10 : Below w5.heap.size w5 w10 := hB9.grown hg10 hB9.size (fun j e => (ho9.lt j e).1)))
          all_goals
            have HO10 := Lib.hid (owns_base ho10 hs5)
            have HB10 := Lib.hid (hb5.trans (hB10.mono hs5))
            clear ho10 hg10 hi10 hB10 ho9 hg9 hi9 hB9 ho8 hg8 hi8 hB8 hlit hal hr1' hq0 HQL HQ2 HC5 ho5 hb5
            go_wp2
            go_roundw
            case rel => exact ⟨i + 1, n, H.take j ++ H.drop (j + 1) ++ [q], rfl, by go_num, by omega, by omega, HH2, by omega, HM2, by simpa using HO10.out, HB10.out⟩
            case measure => simp [intOf]; omega
        · have hruI : ((ru : Int) == 0) = false := beq_eq_false_iff_ne.2 (by omega)
          have e : hitH ru H q = H := by unfold hitH; rw [if_neg hru0]
          rw [e] at HM2
          clear hA HHI HNE hh1 hh2 HH2 hmem hjq e c5
          go_wp2
          go_roundw
          case rel => exact ⟨i + 1, n, H, rfl, by go_num, by omega, by omega, hH, hHl, HM2, ho5, hb5⟩
          case measure => simp [intOf]; omega
end Go.Proofs.Ytncmeocjiinmfan
