/- TREES, over lists: leaves, branches, what is grown, what is told, what one comes to. It speaks of no function of the program. -/
import Derived.Test.YtdiammehnakchacGreatBlobMath
import Derived.Test.YtdiammehnakchacGreatRound
namespace Go.Proofs.YtdiammehnakchacGreat
open Go.RowKit
set_option linter.unusedVariables false
abbrev okD (d : Int) : Prop := 1 ≤ d ∧ d ≤ 2147483646
theorem okD_digest (s : ByteArray) : okD (digest s) := digest_in s
abbrev okBr (ds : List Int) : Prop := 1 ≤ ds.length ∧ ds.length ≤ 4 ∧ ∀ d ∈ ds, okD d
/-- a leaf's bytes, a branch's bytes -/
def leafL (zs : List Int) : List Int := 0 :: zs
def brL (ds : List Int) : List Int := if okBr ds then 1 :: numsB ds else []
theorem okN_of {d : Int} (h : okD d) : okN d := ⟨by have := h.1; omega, by have := h.2; omega⟩
theorem numsB_br {ds : List Int} (h : okBr ds) : numsB ds = enc ds.length ++ flat ds := by
  unfold numsB
  rw [if_pos ⟨by have := h.2.1; omega, fun x hx => okN_of (h.2.2 x hx)⟩]
theorem read_br {ds : List Int} (h : okBr ds) : readNums (numsB ds) = some ds := by
  rw [numsB_br h]
  have e := read_laid ds [] (by have := h.2.1; omega) (fun x hx => okN_of (h.2.2 x hx))
  simpa using e
theorem brL_ok {ds : List Int} (h : okBr ds) : brL ds = 1 :: numsB ds := by unfold brL; rw [if_pos h]
theorem brL_no {ds : List Int} (h : ¬ okBr ds) : brL ds = [] := by unfold brL; rw [if_neg h]
theorem brL_inj {ds es : List Int} (h : okBr ds) (k : okBr es) (e : brL ds = brL es) : ds = es := by
  rw [brL_ok h, brL_ok k] at e
  have e2 : numsB ds = numsB es := (List.cons.inj e).2
  have := read_br h
  rw [e2, read_br k] at this
  exact (Option.some.inj this).symm
/-- what is below a text: its digests; none: it is neither -/
def childL : List Int → Option (List Int)
  | [] => none
  | b :: r => if b = 0 then some [] else if b = 1 then (match readNums r with
    | some l => if brL l = b :: r then some l else none
    | none => none) else none
theorem childL_cons (b : Int) (r : List Int) : childL (b :: r) = if b = 0 then some [] else if b = 1 then (match readNums r with
    | some l => if brL l = b :: r then some l else none
    | none => none) else none := rfl
theorem child_leaf (zs : List Int) : childL (leafL zs) = some [] := rfl
theorem child_br {ds : List Int} (h : okBr ds) : childL (brL ds) = some ds := by
  have e := brL_ok h
  rw [e, childL_cons, if_neg (by decide), if_pos rfl, read_br h]
  simp only
  rw [e, if_pos rfl]
/-- what has something below is its branch -/
theorem child_back {zs l : List Int} (h : childL zs = some l) : (∃ r, zs = leafL r ∧ l = []) ∨ (zs = brL l ∧ okBr l) := by
  cases zs with
  | nil => cases h
  | cons b r =>
    rw [childL_cons] at h
    by_cases h0 : b = 0
    · rw [if_pos h0] at h
      exact Or.inl ⟨r, by rw [h0]; rfl, (Option.some.inj h).symm⟩
    · rw [if_neg h0] at h
      by_cases h1 : b = 1
      · rw [if_pos h1] at h
        split at h
        · rename_i l' hl'
          split at h
          · rename_i he
            obtain rfl := Option.some.inj h
            refine Or.inr ⟨he.symm, ?_⟩
            by_cases hk : okBr l'
            · exact hk
            · rw [brL_no hk] at he; cases he
          · cases h
        · cases h
      · rw [if_neg h1] at h; cases h
/-- as texts -/
def leafT (c : ByteArray) : ByteArray := asB (leafL (byts c))
def brT (ds : List Int) : ByteArray := asB (brL ds)
def childT (s : ByteArray) : Option (List Int) := childL (byts s)
theorem leaf_bytes (c : ByteArray) : Bytes (leafL (byts c)) := fun x hx => by
  rcases List.mem_cons.1 hx with rfl | hx
  · omega
  · exact byts_bytes c x hx
theorem byts_leaf (c : ByteArray) : byts (leafT c) = leafL (byts c) := asB_byts _ (leaf_bytes c)
theorem br_bytes (ds : List Int) : Bytes (brL ds) := by
  by_cases h : okBr ds
  · rw [brL_ok h, numsB_br h]
    intro x hx
    rcases List.mem_cons.1 hx with rfl | hx
    · omega
    · rcases List.mem_append.1 hx with hx | hx
      · exact enc_bytes _ x hx
      · exact flat_bytes _ x hx
  · rw [brL_no h]
    exact fun x hx => absurd hx List.not_mem_nil
theorem byts_br (ds : List Int) : byts (brT ds) = brL ds := asB_byts _ (br_bytes ds)
theorem childT_leaf (c : ByteArray) : childT (leafT c) = some [] := by unfold childT; rw [byts_leaf]; exact child_leaf _
theorem childT_br {ds : List Int} (h : okBr ds) : childT (brT ds) = some ds := by unfold childT; rw [byts_br]; exact child_br h
theorem brT_inj {ds es : List Int} (h : okBr ds) (k : okBr es) (e : brT ds = brT es) : ds = es :=
  brL_inj h k (by rw [← byts_br, ← byts_br, e])
theorem bytsT_inj {a b : ByteArray} (h : byts a = byts b) : a = b := by
  have e : a.data.toList = b.data.toList := by
    unfold byts at h
    refine (List.map_inj_right (fun x y hxy => ?_)).1 h
    have : x.toNat = y.toNat := by
      have h9 : ((x.toNat : Nat) : Int) = ((y.toNat : Nat) : Int) := hxy
      omega
    exact UInt8.toNat_inj.1 this
  cases a; cases b
  simp only at e
  congr
  exact Array.toList_inj.1 e
theorem leafT_inj {a b : ByteArray} (h : leafT a = leafT b) : a = b := by
  have e := congrArg byts h
  rw [byts_leaf, byts_leaf] at e
  exact bytsT_inj (List.cons.inj e).2
theorem leaf_not_br {c : ByteArray} {ds : List Int} (h : okBr ds) : leafT c ≠ brT ds := fun e => by
  have e := congrArg byts e
  rw [byts_leaf, byts_br, brL_ok h] at e
  cases e
/-- four by four -/
def by4 {α : Type} : Nat → List α → List (List α)
  | 0, _ => []
  | n + 1, l => if l = [] then [] else l.take 4 :: by4 n (l.drop 4)
/-- the branches of a row of digests -/
def upT (ds : List Int) : List ByteArray := (by4 ds.length ds).map brT
/-- what stands above a row of texts, and the root -/
def above : Nat → List ByteArray → List ByteArray × Int
  | 0, A => ([], 0)
  | n + 1, A => if A.length ≤ 1 then ([], digest (A.getD 0 ByteArray.empty)) else
    let B := upT (A.map digest)
    (B ++ (above n B).1, (above n B).2)
/-- what Grown tells -/
def grownT (cs : List ByteArray) : List ByteArray × Int :=
  if 1 ≤ cs.length ∧ cs.length ≤ 64 ∧ ∀ c ∈ cs, c.size < 2000 then
    (cs.map leafT ++ (above 5 (cs.map leafT)).1, (above 5 (cs.map leafT)).2)
  else ([], 0)
theorem by4_nil {α : Type} (n : Nat) : by4 n ([] : List α) = [] := by cases n <;> simp [by4]
theorem by4_cons {α : Type} (n : Nat) {l : List α} (h : l ≠ []) : by4 (n + 1) l = l.take 4 :: by4 n (l.drop 4) := by
  show (if l = [] then [] else l.take 4 :: by4 n (l.drop 4)) = _
  rw [if_neg h]
theorem by4_flat {α : Type} : ∀ (n : Nat) (l : List α), l.length ≤ n → (by4 n l).flatten = l
  | 0, l, h => by
    obtain rfl : l = [] := List.eq_nil_of_length_eq_zero (by omega)
    rfl
  | n + 1, l, h => by
    by_cases hl : l = []
    · subst hl; rfl
    · rw [by4_cons n hl, List.flatten_cons, by4_flat n (l.drop 4) (by rw [List.length_drop]; have := List.length_pos_iff.2 hl; omega), List.take_append_drop]
theorem by4_mem {α : Type} : ∀ (n : Nat) (l : List α) (p : List α), p ∈ by4 n l → 1 ≤ p.length ∧ p.length ≤ 4 ∧ ∀ x ∈ p, x ∈ l
  | 0, l, p, h => by cases h
  | n + 1, l, p, h => by
    by_cases hl : l = []
    · subst hl; rw [by4_nil] at h; cases h
    · rw [by4_cons n hl] at h
      rcases List.mem_cons.1 h with rfl | h
      · have := List.length_pos_iff.2 hl
        exact ⟨by rw [List.length_take]; omega, by rw [List.length_take]; omega, fun x hx => List.mem_of_mem_take hx⟩
      · obtain ⟨h1, h2, h3⟩ := by4_mem n _ p h
        exact ⟨h1, h2, fun x hx => List.mem_of_mem_drop (h3 x hx)⟩
theorem by4_len {α : Type} : ∀ (n : Nat) (l : List α), l.length ≤ n → (by4 n l).length = (l.length + 3) / 4
  | 0, l, h => by
    obtain rfl : l = [] := List.eq_nil_of_length_eq_zero (by omega)
    simp [by4_nil]
  | n + 1, l, h => by
    by_cases hl : l = []
    · subst hl; simp [by4_nil]
    · have hp := List.length_pos_iff.2 hl
      rw [by4_cons n hl, List.length_cons, by4_len n (l.drop 4) (by rw [List.length_drop]; omega), List.length_drop]
      omega
/-- digests of texts -/
def dgs (A : List ByteArray) : List Int := A.map digest
theorem dgs_ok {A : List ByteArray} : ∀ d ∈ dgs A, okD d := fun d hd => by
  obtain ⟨s, _, rfl⟩ := List.mem_map.1 hd
  exact okD_digest s
theorem upT_br {ds : List Int} (h : ∀ d ∈ ds, okD d) {x : ByteArray} (hx : x ∈ upT ds) : ∃ es, okBr es ∧ x = brT es := by
  obtain ⟨es, he, rfl⟩ := List.mem_map.1 hx
  obtain ⟨h1, h2, h3⟩ := by4_mem _ _ _ he
  exact ⟨es, ⟨h1, h2, fun d hd => h d (h3 d hd)⟩, rfl⟩
theorem upT_len (ds : List Int) : (upT ds).length = (ds.length + 3) / 4 := by unfold upT; rw [List.length_map, by4_len _ _ (Nat.le_refl _)]
theorem map_br_inj : ∀ {L M : List (List Int)}, (∀ p ∈ L, okBr p) → (∀ p ∈ M, okBr p) → L.map brT = M.map brT → L = M
  | [], [], _, _, _ => rfl
  | [], q :: M, _, _, h => by cases h
  | p :: L, [], _, _, h => by cases h
  | p :: L, q :: M, hL, hM, h => by
    rw [List.map_cons, List.map_cons] at h
    obtain ⟨h1, h2⟩ := List.cons.inj h
    rw [brT_inj (hL p (by simp)) (hM q (by simp)) h1, map_br_inj (fun x hx => hL x (by simp [hx])) (fun x hx => hM x (by simp [hx])) h2]
/-- a row is told by its branches -/
theorem upT_inj {ds es : List Int} (h : ∀ d ∈ ds, okD d) (k : ∀ d ∈ es, okD d) (e : upT ds = upT es) : ds = es := by
  have e2 : by4 ds.length ds = by4 es.length es := map_br_inj (fun p hp => by
      obtain ⟨h1, h2, h3⟩ := by4_mem _ _ _ hp
      exact ⟨h1, h2, fun d hd => h d (h3 d hd)⟩) (fun p hp => by
      obtain ⟨h1, h2, h3⟩ := by4_mem _ _ _ hp
      exact ⟨h1, h2, fun d hd => k d (h3 d hd)⟩) e
  have e3 := congrArg List.flatten e2
  rwa [by4_flat _ _ (Nat.le_refl _), by4_flat _ _ (Nat.le_refl _)] at e3
/-- no two of them clash -/
def Calm8 (V : List ByteArray) : Prop := ∀ a ∈ V, ∀ b ∈ V, digest a = digest b → a = b
theorem calm_map {V : List ByteArray} (hc : Calm8 V) : ∀ {A B : List ByteArray}, (∀ a ∈ A, a ∈ V) → (∀ b ∈ B, b ∈ V) → dgs A = dgs B → A = B
  | [], [], _, _, _ => rfl
  | [], q :: M, _, _, h => by cases h
  | p :: L, [], _, _, h => by cases h
  | p :: L, q :: M, hL, hM, h => by
    unfold dgs at h
    rw [List.map_cons, List.map_cons] at h
    obtain ⟨h1, h2⟩ := List.cons.inj h
    rw [hc p (hL p (by simp)) q (hM q (by simp)) h1, calm_map hc (fun x hx => hL x (by simp [hx])) (fun x hx => hM x (by simp [hx])) h2]
/-- Y is a row that stands above X -/
inductive Up : List ByteArray → List ByteArray → Prop
  | one {X : List ByteArray} : 1 < X.length → Up X (upT (dgs X))
  | more {X Y : List ByteArray} : 1 < X.length → Up (upT (dgs X)) Y → Up X Y
theorem up_snoc {X Y : List ByteArray} (h : Up X Y) (hY : 1 < Y.length) : Up X (upT (dgs Y)) := by
  induction h with
  | one h1 => exact Up.more h1 (Up.one hY)
  | more h1 _ ih => exact Up.more h1 (ih hY)
theorem up_trans {X Y Z : List ByteArray} (h : Up X Y) (k : Up Y Z) : Up X Z := by
  induction h with
  | one h1 => exact Up.more h1 k
  | more h1 _ ih => exact Up.more h1 (ih k)
theorem up_is {X Y : List ByteArray} (h : Up X Y) : ∃ Z, 1 < Z.length ∧ Y = upT (dgs Z) ∧ (Z = X ∨ Up X Z) := by
  induction h with
  | one h1 => exact ⟨_, h1, rfl, Or.inl rfl⟩
  | more h1 _ ih =>
    obtain ⟨Z, hz1, hz2, hz3⟩ := ih
    refine ⟨Z, hz1, hz2, Or.inr ?_⟩
    rcases hz3 with rfl | hz3
    · exact Up.one h1
    · exact Up.more h1 hz3
theorem up_br {X Y : List ByteArray} (h : Up X Y) : ∀ y ∈ Y, ∃ es, okBr es ∧ y = brT es := by
  obtain ⟨Z, _, rfl, _⟩ := up_is h
  exact fun y hy => upT_br dgs_ok hy
theorem up_long {X Y : List ByteArray} (h : Up X Y) : 1 < X.length := by cases h <;> assumption
theorem above_low (n : Nat) {A : List ByteArray} (h : A.length ≤ 1) : above (n + 1) A = ([], digest (A.getD 0 ByteArray.empty)) := by
  show (if A.length ≤ 1 then _ else _) = _
  rw [if_pos h]
theorem above_high (n : Nat) {A : List ByteArray} (h : 1 < A.length) : above (n + 1) A = (upT (dgs A) ++ (above n (upT (dgs A))).1, (above n (upT (dgs A))).2) := by
  show (if A.length ≤ 1 then _ else _) = _
  rw [if_neg (by omega)]
  rfl
theorem up_in {X Z : List ByteArray} (h : Up X Z) : ∀ (k : Nat), X.length ≤ 4 ^ k → ∀ z ∈ Z, z ∈ (above (k + 1) X).1 := by
  induction h with
  | one h1 =>
    intro k hk z hz
    rw [above_high k h1]
    exact List.mem_append_left _ hz
  | more h1 h2 ih =>
    intro k hk z hz
    rw [above_high k h1]
    refine List.mem_append_right _ ?_
    cases k with
    | zero => simp at hk; omega
    | succ k =>
      refine ih k ?_ z hz
      rw [upT_len]
      unfold dgs
      rw [List.length_map]
      rw [Nat.pow_succ] at hk
      omega
theorem upT_ne {X : List ByteArray} (h : 1 < X.length) : upT (dgs X) ≠ [] := fun e => by
  have h2 := upT_len (dgs X)
  rw [e] at h2
  unfold dgs at h2
  rw [List.length_map] at h2
  simp at h2
  omega
theorem upT_short {X : List ByteArray} {k : Nat} (h : X.length ≤ 4 ^ (k + 1)) : (upT (dgs X)).length ≤ 4 ^ k := by
  rw [upT_len]
  unfold dgs
  rw [List.length_map]
  rw [Nat.pow_succ] at h
  omega
theorem one_of {A : List ByteArray} (h : A.length ≤ 1) (h0 : A ≠ []) : A = [A.getD 0 ByteArray.empty] := by
  cases A with
  | nil => exact absurd rfl h0
  | cons a r =>
    cases r with
    | nil => rfl
    | cons b r => simp at h
/-- MERKLE: two rows of one root are alike, or one stands above the other one, where no two texts clash -/
theorem merkle {V : List ByteArray} (hc : Calm8 V) : ∀ (s n m : Nat), n + m ≤ s → ∀ (A B : List ByteArray), A ≠ [] → B ≠ [] → A.length ≤ 4 ^ n → B.length ≤ 4 ^ m → (∀ a ∈ A, a ∈ V) → (∀ a ∈ (above (n + 1) A).1, a ∈ V) → (∀ b ∈ B, b ∈ V) → (∀ b ∈ (above (m + 1) B).1, b ∈ V) → (above (n + 1) A).2 = (above (m + 1) B).2 → A = B ∨ Up B A ∨ Up A B := by
  intro s
  induction s with
  | zero =>
    intro n m hs A B hA hB hAl hBl hAV _ hBV _ hr
    obtain ⟨rfl, rfl⟩ : n = 0 ∧ m = 0 := by omega
    have a1 : A.length ≤ 1 := by simpa using hAl
    have b1 : B.length ≤ 1 := by simpa using hBl
    rw [above_low 0 a1, above_low 0 b1] at hr
    have e1 := one_of a1 hA
    have e2 := one_of b1 hB
    left
    rw [e1, e2]
    congr 1
    exact hc _ (hAV _ (by rw [e1]; simp)) _ (hBV _ (by rw [e2]; simp)) hr
  | succ s ih =>
    intro n m hs A B hA hB hAl hBl hAV hAW hBV hBW hr
    by_cases a1 : A.length ≤ 1
    · by_cases b1 : B.length ≤ 1
      · rw [above_low n a1, above_low m b1] at hr
        have e1 := one_of a1 hA
        have e2 := one_of b1 hB
        left
        rw [e1, e2]
        congr 1
        exact hc _ (hAV _ (by rw [e1]; simp)) _ (hBV _ (by rw [e2]; simp)) hr
      · have b2 : 1 < B.length := by omega
        cases m with
        | zero => simp at hBl; omega
        | succ m =>
          rw [above_high (m + 1) b2] at hr hBW
          rcases ih n m (by omega) A (upT (dgs B)) hA (upT_ne b2) hAl (upT_short hBl) hAV hAW (fun x hx => hBW x (List.mem_append_left _ hx)) (fun x hx => hBW x (List.mem_append_right _ hx)) hr with h | h | h
          · exact Or.inr (Or.inl (h ▸ Up.one b2))
          · exact Or.inr (Or.inl (Up.more b2 h))
          · have := up_long h; omega
    · have a2 : 1 < A.length := by omega
      cases n with
      | zero => simp at hAl; omega
      | succ n =>
        rw [above_high (n + 1) a2] at hr hAW
        have hAW1 : ∀ x ∈ upT (dgs A), x ∈ V := fun x hx => hAW x (List.mem_append_left _ hx)
        have hAW2 : ∀ x ∈ (above (n + 1) (upT (dgs A))).1, x ∈ V := fun x hx => hAW x (List.mem_append_right _ hx)
        by_cases b1 : B.length ≤ 1
        · rcases ih n m (by omega) (upT (dgs A)) B (upT_ne a2) hB (upT_short hAl) hBl hAW1 hAW2 hBV hBW hr with h | h | h
          · exact Or.inr (Or.inr (h ▸ Up.one a2))
          · have := up_long h; omega
          · exact Or.inr (Or.inr (Up.more a2 h))
        · have b2 : 1 < B.length := by omega
          cases m with
          | zero => simp at hBl; omega
          | succ m =>
            rw [above_high (m + 1) b2] at hr hBW
            have hBW1 : ∀ x ∈ upT (dgs B), x ∈ V := fun x hx => hBW x (List.mem_append_left _ hx)
            have hBW2 : ∀ x ∈ (above (m + 1) (upT (dgs B))).1, x ∈ V := fun x hx => hBW x (List.mem_append_right _ hx)
            rcases ih n m (by omega) (upT (dgs A)) (upT (dgs B)) (upT_ne a2) (upT_ne b2) (upT_short hAl) (upT_short hBl) hAW1 hAW2 hBW1 hBW2 hr with h | h | h
            · exact Or.inl (calm_map hc hAV hBV (upT_inj dgs_ok dgs_ok h))
            · obtain ⟨Z, z1, z2, z3⟩ := up_is h
              have hZV : ∀ z ∈ Z, z ∈ V := by
                rcases z3 with rfl | z3
                · exact hBW1
                · exact fun z hz => hBW2 z (up_in z3 m (upT_short hBl) z hz)
              have e : A = Z := calm_map hc hAV hZV (upT_inj dgs_ok dgs_ok z2)
              subst e
              rcases z3 with z3 | z3
              · exact Or.inr (Or.inl (z3 ▸ Up.one b2))
              · exact Or.inr (Or.inl (Up.more b2 z3))
            · obtain ⟨Z, z1, z2, z3⟩ := up_is h
              have hZV : ∀ z ∈ Z, z ∈ V := by
                rcases z3 with rfl | z3
                · exact hAW1
                · exact fun z hz => hAW2 z (up_in z3 n (upT_short hAl) z hz)
              have e : B = Z := calm_map hc hBV hZV (upT_inj dgs_ok dgs_ok z2)
              subst e
              rcases z3 with z3 | z3
              · exact Or.inr (Or.inr (z3 ▸ Up.one a2))
              · exact Or.inr (Or.inr (Up.more a2 z3))
theorem leaves_inj : ∀ {a b : List ByteArray}, a.map leafT = b.map leafT → a = b
  | [], [], _ => rfl
  | [], q :: M, h => by cases h
  | p :: L, [], h => by cases h
  | p :: L, q :: M, h => by
    rw [List.map_cons, List.map_cons] at h
    obtain ⟨h1, h2⟩ := List.cons.inj h
    rw [leafT_inj h1, leaves_inj h2]
/-- what grows to one root is alike, or two texts of the trees clash -/
theorem grown_merkle {a b : List ByteArray} (ha : (grownT a).1 ≠ []) (hb : (grownT b).1 ≠ []) (hr : (grownT a).2 = (grownT b).2) (hc : Calm8 ((grownT a).1 ++ (grownT b).1)) : a = b := by
  have grow : ∀ {c : List ByteArray}, (grownT c).1 ≠ [] → (1 ≤ c.length ∧ c.length ≤ 64) ∧ grownT c = (c.map leafT ++ (above 5 (c.map leafT)).1, (above 5 (c.map leafT)).2) := fun {c} h => by
    unfold grownT at h ⊢
    split at h
    · rename_i k
      rw [if_pos k]
      exact ⟨⟨k.1, k.2.1⟩, rfl⟩
    · exact absurd rfl h
  obtain ⟨ka, ea⟩ := grow ha
  obtain ⟨kb, eb⟩ := grow hb
  rw [ea, eb] at hc hr
  have ne : ∀ {c : List ByteArray}, 1 ≤ c.length → c.map leafT ≠ [] := fun {c} h e => by
    have := congrArg List.length e
    rw [List.length_map] at this
    simp at this
    rw [this] at h
    simp at h
  have leaf_up : ∀ {c d : List ByteArray}, 1 ≤ c.length → ¬ Up (d.map leafT) (c.map leafT) := fun {c d} h1 h => by
    cases c with
    | nil => simp at h1
    | cons x r =>
      obtain ⟨es, he, e⟩ := up_br h (leafT x) (by simp)
      exact leaf_not_br he e
  rcases merkle hc 8 4 4 (by omega) (a.map leafT) (b.map leafT) (ne ka.1) (ne kb.1) (by rw [List.length_map]; have : 4 ^ 4 = 256 := rfl; omega) (by rw [List.length_map]; have : 4 ^ 4 = 256 := rfl; omega)
      (fun x hx => by simp [hx]) (fun x hx => List.mem_append_left _ (List.mem_append_right _ hx)) (fun x hx => by simp [hx]) (fun x hx => List.mem_append_right _ (List.mem_append_right _ hx)) hr with h | h | h
  · exact leaves_inj h
  · exact absurd h (leaf_up ka.1)
  · exact absurd h (leaf_up kb.1)
end Go.Proofs.YtdiammehnakchacGreat
