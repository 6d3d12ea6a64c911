/- NewRing OVER LISTS, and the specification's l11Nodes. -/
import Derived.Test.YtidmaaglfckcbafDoorRngS
import Derived.Test.YtidmaaglfckcbafDoorDec
namespace Go.Proofs.YtidmaaglfckcbafDoor
open Go.RowKit
set_option linter.unusedVariables false
abbrev NodesP (l : List Int) (most : Int) : Prop := (1 ≤ l.length ∧ l.length ≤ 16) ∧ (∀ x ∈ l, 0 ≤ x ∧ x ≤ most) ∧ l.Nodup
theorem getD_int {l : List Int} {j : Nat} (h : j < l.length) : l.getD j 0 = l[j] := by simp [List.getD, h]
theorem nodes_no {l : List Int} {most : Int} {i : Nat} (hi : i < l.length) (h : ¬ ((0 ≤ l.getD i 0 ∧ l.getD i 0 ≤ most) ∧ l.getD i 0 ∉ l.take i)) : ¬ NodesP l most := fun hr => by
  apply h
  rw [getD_int hi]
  refine ⟨hr.2.1 _ (List.getElem_mem hi), fun hm => ?_⟩
  obtain ⟨j, hj, e⟩ := List.getElem_of_mem hm
  rw [List.length_take] at hj
  rw [List.getElem_take] at e
  have h9 := List.pairwise_iff_getElem.1 hr.2.2 j i (by omega) hi (by omega)
  exact h9 e
theorem nodes_yes {l : List Int} {most : Int} (hl : 1 ≤ l.length ∧ l.length ≤ 16) (h : ∀ i, i < l.length → ((0 ≤ l.getD i 0 ∧ l.getD i 0 ≤ most) ∧ l.getD i 0 ∉ l.take i)) : NodesP l most := by
  refine ⟨hl, fun x hx => ?_, List.pairwise_iff_getElem.2 fun i j hi hj hij e => ?_⟩
  · obtain ⟨i, hi, rfl⟩ := List.getElem_of_mem hx
    have h9 := (h i hi).1
    rwa [getD_int hi] at h9
  · have h9 := (h j hj).2
    rw [getD_int hj, ← e] at h9
    exact h9 (List.mem_iff_getElem.2 ⟨i, by rw [List.length_take]; omega, by rw [List.getElem_take]⟩)
set_option maxHeartbeats 4000000 in
set_option maxRecDepth 100000 in
theorem l11Nodes_any (va : Value) (l : List Int) (most : Int) (w : World) (ha : Rd w va (cellsInt64S l)) (hl : l.length ≤ 1048576) :
    Calls Tryd.prog 23 #[va, .int .i64 most] w fun e w' => e = .returned (.bool (decide (NodesP l most))) ∧ Below w.heap.size w w' := by
  have hla : (cellsInt64S l).length = l.length := by simp
  by_cases hlo : l.length < 1
  focus
    have e : decide (NodesP l most) = false := decide_eq_false (fun h => by have := h.1.1; omega)
    rw [e]
    obtain ⟨ao, cap, rfl, _⟩ := ha
    have hI : ((cellsInt64S l).length : Int) < 1 := by omega
    clear e
    go_enter Tryd.func23, Tryd.ntmps23
    go_wp2
    go_ret
    exact ⟨rfl, Below.refl _ _⟩
  by_cases hhi : 16 < l.length
  focus
    have e : decide (NodesP l most) = false := decide_eq_false (fun h => by have := h.1.2; omega)
    rw [e]
    obtain ⟨ao, cap, rfl, _⟩ := ha
    rw [hla]
    have hI : ¬ (l.length : Int) < 1 := by omega
    have hJ : (16 : Int) < (l.length : Int) := by omega
    clear e
    go_enter Tryd.func23, Tryd.ntmps23
    go_wp2
    go_ret
    exact ⟨rfl, Below.refl _ _⟩
  have hI : ¬ (l.length : Int) < 1 := by omega
  have hJ : ¬ (16 : Int) < (l.length : Int) := by omega
  rcases rd_cases ha with ⟨h0, ao, cap, rfl⟩ | ⟨hp, b, off, cap, rfl, hcap, hlt, hc⟩
  · have h1 := congrArg List.length h0
    rw [hla] at h1
    simp at h1
    rw [h1] at hlo
    exact absurd hlo (by decide)
  rw [hla] at hc hp hcap ⊢
  have HA : Hid (∀ j, j < l.length → w.cell? ⟨b, off + j, none⟩ = some (.int .i64 (l.getD j 0))) := fun j hj => (hc j hj).trans (ints_get _ l j hj)
  have HSL : Hid (∀ k, k < l.length → (∀ W : World, (Instr.slice 24 (.slice (some ⟨b, off, none⟩) l.length cap) none (some (.int .i64 (k : Int))) none).run Tryd.prog W = .ok (.slice (some ⟨b, off, none⟩) k cap) W) ∧ Rd w (.slice (some ⟨b, off, none⟩) k cap) (cellsInt64S (l.take k))) := fun k hk => by
    have hlk : (cellsInt64S (l.take k)).length = k := by simp; omega
    refine ⟨fun W => ?_, ⟨some ⟨b, off, none⟩, cap, by rw [hlk], by omega, fun _ => ⟨b, off, rfl, hlt, fun j hj => ?_⟩⟩⟩
    · rw [run_slice_h W 24 _ _ cap (by rw [elemI8]; exact Tryd.underlying24) .i64 _ (by omega) (by omega), elemI8, sizeI8]
      have h0 : ¬ cap = 0 := by omega
      simp [Result.andThen, sliced, h0, Addr.add]
    · rw [hlk] at hj
      rw [hc j (by omega)]
      simp [cellsInt64S, List.getElem?_map, hj]
  have HNO : Hid (∀ i, i < l.length → ¬ ((0 ≤ l.getD i 0 ∧ l.getD i 0 ≤ most) ∧ l.getD i 0 ∉ l.take i) → decide (NodesP l most) = false) := fun i hi h => decide_eq_false (nodes_no hi h)
  have HYES : Hid ((∀ i, i < l.length → ((0 ≤ l.getD i 0 ∧ l.getD i 0 ≤ most) ∧ l.getD i 0 ∉ l.take i)) → decide (NodesP l most) = true) := fun h => decide_eq_true (nodes_yes ⟨by omega, by omega⟩ h)
  generalize decide (NodesP l most) = r at HNO HYES ⊢
  have HTL : Hid (∀ k, (l.take k).length ≤ 1048576) := fun k => by rw [List.length_take]; omega
  obtain ⟨n, hn⟩ : ∃ n, n = l.length := ⟨_, rfl⟩
  rw [← hn] at hp hl hI hJ hlo hhi HA HSL HNO HYES hcap ⊢
  clear hc ha hn hla
  go_enter Tryd.func23, Tryd.ntmps23
  go_wp2
  go_loopw [5] (fun i wr => ∃ k q : Nat, k ≤ n ∧ i = .int .i64 k ∧ wr = w.drewN q ∧ Hid (∀ i, i < k → ((0 ≤ l.getD i 0 ∧ l.getD i 0 ≤ most) ∧ l.getD i 0 ∉ l.take i))) (fun i _ => n - (intOf i).toNat)
  case atStart => exact ⟨0, 0, Nat.zero_le _, rfl, rfl, fun i h => by omega⟩
  case round =>
    obtain ⟨k, qd, hk, rfl, rfl, hok⟩ := hrel
    by_cases hltk : k < n
    focus
      have d0 := HA.out k hltk
      obtain ⟨hsl, hrd⟩ := HSL.out k hltk
      have hrdD : ∀ d, Rd (w.drewN d) (.slice (some ⟨b, off, none⟩) k cap) (cellsInt64S (l.take k)) := fun d => hrd
      have hlk := HTL.out k
      have HNk := Lib.hid (HNO.out k hltk)
      have hnew : Hid (((0 ≤ l.getD k 0 ∧ l.getD k 0 ≤ most) ∧ l.getD k 0 ∉ l.take k) → ∀ i, i < k + 1 → ((0 ≤ l.getD i 0 ∧ l.getD i 0 ≤ most) ∧ l.getD i 0 ∉ l.take i)) := fun h i hi => by
        rcases Nat.lt_or_ge i k with g | g
        · exact hok.out i g
        · obtain rfl : i = k := by omega
          exact h
      obtain ⟨x, hx⟩ : ∃ x, x = l.getD k 0 := ⟨_, rfl⟩
      rw [← hx] at d0 HNk hnew
      clear hx hok
      have hltI : (k : Int) < (n : Int) := by omega
      by_cases h1 : 0 ≤ x ∧ x ≤ most
      rotate_left
      focus
        have HR := Lib.hid (HNk.out (fun h => h1 h.1))
        have g1 : (decide (0 ≤ x) && decide (x ≤ most)) = false := by
          cases e : (decide (0 ≤ x) && decide (x ≤ most)) with
          | false => rfl
          | true => exact absurd (by simpa using e) h1
        clear HNk hnew h1
        go_wp2
        go_quiet (first | (go_at_call 24; refine (l1InB_any _ _ _ _).mono ?_; rintro e w8 ⟨rfl, rfl⟩; rw [g1]; exact ⟨rfl, ⟨_, rfl⟩⟩))
        go_wp2
        go_ret
        exact ⟨ret_boolD HR.out.symm, by first | exact below_drewN (Below.refl _ _) _ | exact below_drewN (below_drewN (Below.refl _ _) _) _⟩
      have g1 : (decide (0 ≤ x) && decide (x ≤ most)) = true := by simpa using h1
      by_cases h2 : x ∈ l.take k
      focus
        have HR := Lib.hid (HNk.out (fun h => h.2 h2))
        have g2 : (l.take k).contains x = true := by simpa using h2
        clear HNk hnew h1 h2
        go_wp2
        go_quiet (first | (go_at_call 24; refine (l1InB_any _ _ _ _).mono ?_; rintro e w8 ⟨rfl, rfl⟩; rw [g1]; exact ⟨rfl, ⟨_, rfl⟩⟩) | (go_at_call 40; refine (l1HasB_any _ (l.take k) x _ (by exact hrd) (by omega)).mono ?_; rintro e w8 ⟨rfl, rfl⟩; rw [g2]; exact ⟨rfl, ⟨_, rfl⟩⟩))
        go_wp2
        go_ret
        exact ⟨ret_boolD HR.out.symm, by first | exact below_drewN (Below.refl _ _) _ | exact below_drewN (below_drewN (Below.refl _ _) _) _⟩
      have g2 : (l.take k).contains x = false := by
        cases e : (l.take k).contains x with
        | false => rfl
        | true => exact absurd (by simpa using e) h2
      have HS := Lib.hid (hnew.out ⟨h1, h2⟩)
      clear HNk hnew h1 h2
      go_wp2
      go_quiet (first | (go_at_call 24; refine (l1InB_any _ _ _ _).mono ?_; rintro e w8 ⟨rfl, rfl⟩; rw [g1]; exact ⟨rfl, ⟨_, rfl⟩⟩) | (go_at_call 40; refine (l1HasB_any _ (l.take k) x _ (by exact hrd) (by omega)).mono ?_; rintro e w8 ⟨rfl, rfl⟩; rw [g2]; exact ⟨rfl, ⟨_, rfl⟩⟩))
      go_wp2
      go_roundw
      case rel => exact ⟨k + 1, _, by omega, by go_num, rfl, HS⟩
      case measure => simp [intOf]; omega
    have HR := Lib.hid (HYES.out (fun i hi => hok.out i (by omega)))
    go_wp2
    go_ret
    exact ⟨ret_boolD HR.out.symm, by first | exact below_drewN (Below.refl _ _) _ | exact below_drewN (below_drewN (Below.refl _ _) _) _⟩
/-- the text of a dot, its place -/
def dotX (x k : Nat) : ByteArray := ((⟨#[110, 111, 100, 101]⟩ ++ decN x) ++ ⟨#[46]⟩) ++ decN k
def dotAt (x k : Nat) : Int := digest (dotX x k) % 65536
/-- the first m dots of a node more -/
def insN (x : Int) : Nat → List Dt → List Dt
  | 0, l => l
  | m + 1, l => insD (insN x m l) (dotAt x.toNat m, x)
def ringN (dots : Nat) : List Int → List Dt → List Dt
  | [], l => l
  | x :: t, l => ringN dots t (insN x dots l)
/-- the place at which a dot goes in -/
theorem insD_pos : ∀ {l : List Dt} {p : Dt} {g : Nat}, g ≤ l.length → (∀ j, j < g → (l.getD j dt0).1 < p.1) → (g < l.length → ¬ (l.getD g dt0).1 < p.1) → insD l p = if g < l.length ∧ (l.getD g dt0).1 = p.1 then l else l.take g ++ [p] ++ l.drop g
  | [], p, g, hg, _, _ => by
    have h0 : g = 0 := by simpa using hg
    subst h0
    rw [if_neg (fun h => absurd h.1 (Nat.lt_irrefl _))]
    rfl
  | q :: t, p, 0, _, _, h2 => by
    have h3 := h2 (by simp)
    have e0 : (q :: t).getD 0 dt0 = q := rfl
    rw [e0] at h3
    rw [insD, if_neg h3, e0]
    by_cases h4 : q.1 = p.1
    · rw [if_pos h4, if_pos ⟨by simp, h4⟩]
    · rw [if_neg h4, if_neg (fun h => h4 h.2)]
      rfl
  | q :: t, p, g + 1, hg, h1, h2 => by
    have h3 := h1 0 (by omega)
    have e0 : (q :: t).getD 0 dt0 = q := rfl
    rw [e0] at h3
    have eS : ∀ j, (q :: t).getD (j + 1) dt0 = t.getD j dt0 := fun j => by simp [List.getD]
    have ih := insD_pos (l := t) (p := p) (g := g) (by simpa using hg) (fun j hj => by have := h1 (j + 1) (by omega); rwa [eS] at this) (fun hj => by have := h2 (by simpa using hj); rwa [eS] at this)
    rw [insD, if_pos h3, ih, eS]
    by_cases h4 : g < t.length ∧ (t.getD g dt0).1 = p.1
    · rw [if_pos h4, if_pos ⟨by simpa using h4.1, h4.2⟩]
    · rw [if_neg h4, if_neg (fun h => h4 ⟨by simpa using h.1, h.2⟩)]
      rfl
theorem insN_len (x : Int) : ∀ (m : Nat) (l : List Dt), (insN x m l).length ≤ l.length + m
  | 0, l => Nat.le_refl _
  | m + 1, l => by
    have h1 := insN_len x m l
    have h2 := (insD_len (insN x m l) (dotAt x.toNat m, x)).1
    show (insD _ _).length ≤ _
    omega
end Go.Proofs.YtidmaaglfckcbafDoor
