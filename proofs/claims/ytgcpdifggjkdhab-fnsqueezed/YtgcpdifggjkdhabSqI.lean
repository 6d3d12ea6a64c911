/- CONTRACTS: the program's openingAt, note, longest. -/
import Derived.Test.YtgcpdifggjkdhabMapE
import Derived.Test.YtgcpdifggjkdhabSqS
import Derived.Laws.ResultCell
import Derived.OneCell
namespace Go.Proofs.Ytgcpdifggjkdhab
open Go.RowKit Go.MapKept
set_option linter.unusedVariables false
open Go.ChangeMaps (setBlock heap_setBlock_same heap_setBlock_other)

/-- four bytes of a text from a place on -/
def keyV (L : List Int) (p : Nat) : Value := .agg #[.int .u8 (L.getD p 0), .int .u8 (L.getD (p + 1) 0), .int .u8 (L.getD (p + 2) 0), .int .u8 (L.getD (p + 3) 0)]
theorem keyV_on {L : List Int} {p a : Nat} (h : a + 4 ≤ L.length) : keyV L p = keyV L a ↔ ∀ i, i < 4 → Sq.On L p a i := by
  unfold keyV
  constructor
  · intro e i hi
    simp only [Value.agg.injEq, Array.mk.injEq, List.cons.injEq, Value.int.injEq, true_and, and_true] at e
    obtain ⟨e0, e1, e2, e3⟩ := e
    refine ⟨by omega, ?_⟩
    rcases (show i = 0 ∨ i = 1 ∨ i = 2 ∨ i = 3 by omega) with rfl | rfl | rfl | rfl <;> assumption
  · intro h
    have h0 := (h 0 (by omega)).2
    have h1 := (h 1 (by omega)).2
    have h2 := (h 2 (by omega)).2
    have h3 := (h 3 (by omega)).2
    simp only [Nat.add_zero] at h0
    rw [h0, h1, h2, h3]
theorem keyOf_quad {P : Program} {k e : TypeId} {q : IntKind} (A : WideMaps.ArrKey P k e 4) (he : P.underlying e = some (.int q)) (hsz : ∃ m, P.types.size = m + 1) {a b c d : Int} (wa : (Lit.int q a).wf = true) (wb : (Lit.int q b).wf = true) (wc : (Lit.int q c).wf = true) (wd : (Lit.int q d).wf = true) :
    ∃ kl, keyOf P k (.agg #[.int q a, .int q b, .int q c, .int q d]) = some kl := by
  have hkt := A.keyType hsz
  obtain ⟨m, hm⟩ := hsz
  refine ⟨.string (keyBytes [.int q a, .int q b, .int q c, .int q d]), ?_⟩
  unfold keyOf
  simp only [A.hu]
  rw [if_pos (by simp [hkt, Value.formed, A.hu, A.size]), hm]
  unfold Program.keyLits
  simp only [A.hu, Value.cells]
  rw [if_pos (by rw [A.size]; rfl), show List.range 4 = [0, 1, 2, 3] from rfl, List.mapM_cons, List.mapM_cons, List.mapM_cons, List.mapM_cons, List.mapM_nil]
  simp [A.one, Program.keyLits, he, wa, wb, wc, wd]

theorem Try.opKey : WideMaps.ArrKey Try.prog 121 5 4 := ⟨by kernel_rfl, by kernel_rfl, by kernel_rfl, by kernel_rfl⟩
theorem Try.opLaw : WideMaps.KeyLaw Try.prog 121 := Try.opKey.law
theorem keyV_has (L : List Int) (hL : Bytes L) (p : Nat) : ∃ kl, keyOf Try.prog 121 (keyV L p) = some kl := by
  have h : ∀ i, (Lit.int .u8 (L.getD i 0)).wf = true := fun i => by
    exact WalkArith.wf_u8 (bytes_get hL i)
  exact keyOf_quad Try.opKey Try.underlying5 ⟨_, rfl⟩ (h p) (h (p + 1)) (h (p + 2)) (h (p + 3))
set_option maxHeartbeats 1000000 in
set_option maxRecDepth 100000 in
theorem openingAt_yes (s : ByteArray) (a : Nat) (w : World) (ha : a + 4 ≤ s.size) (hs : s.size ≤ 20000) :
    Calls Try.prog 104 #[.string s, .int .i64 (a : Int)] w fun e w' => e = .returned (.tuple #[keyV (byts s) a, .bool true]) ∧ Below w.heap.size w w' := by
  have h0 := str_atI s a ((a : Int) + 0) (by omega) (by omega)
  have h00 := str_at s a (by omega)
  have h1 := str_atI s (a + 1) ((a : Int) + 1) (by omega) (by omega)
  have h2 := str_atI s (a + 2) ((a : Int) + 2) (by omega) (by omega)
  have h3 := str_atI s (a + 3) ((a : Int) + 3) (by omega) (by omega)
  have hI : ¬ (s.size : Int) - (a : Int) < 4 := by omega
  unfold keyV
  generalize (byts s).getD a 0 = x0 at h0 h00 ⊢
  generalize (byts s).getD (a + 1) 0 = x1 at h1 ⊢
  generalize (byts s).getD (a + 2) 0 = x2 at h2 ⊢
  generalize (byts s).getD (a + 3) 0 = x3 at h3 ⊢
  go_enter Try.func104, Try.ntmps104
  go_wp2
  refine wp_loop_rounds 5 ?_
  rw [rounds_succ]
  go_wp2
  rw [rounds_succ]
  go_wp2
  rw [rounds_succ]
  go_wp2
  rw [rounds_succ]
  go_wp2
  rw [rounds_succ]
  go_wp2
  exact bodyPost_ret (v := .tuple #[.agg #[.int .u8 x0, .int .u8 x1, .int .u8 x2, .int .u8 x3], .bool true]) (by simp [results, Try.results104, go_sem]) rfl ⟨rfl, ((Below.refl _ _).alloc (Nat.le_refl _) _).alloc (by simp) _⟩
set_option maxRecDepth 100000 in
theorem openingAt_no (s : ByteArray) (a : Nat) (w : World) (ha : s.size < a + 4) (hs : s.size ≤ 20000) (hal : a ≤ 20000) :
    Calls Try.prog 104 #[.string s, .int .i64 (a : Int)] w fun e w' => e = .returned (.tuple #[.agg #[.int .u8 0, .int .u8 0, .int .u8 0, .int .u8 0], .bool false]) ∧ Below w.heap.size w w' := by
  have hI : (s.size : Int) - (a : Int) < 4 := by omega
  go_enter Try.func104, Try.ntmps104
  go_wp2
  exact bodyPost_ret (v := .tuple #[.agg #[.int .u8 0, .int .u8 0, .int .u8 0, .int .u8 0], .bool false]) (by simp [results, Try.results104, go_sem]) rfl ⟨rfl, ((Below.refl _ _).alloc (Nat.le_refl _) _).alloc (by simp) _⟩

def keyL (L : List Int) (p : Nat) : List Int := [L.getD p 0, L.getD (p + 1) 0, L.getD (p + 2) 0, L.getD (p + 3) 0]
theorem keyV_iff {L : List Int} {p a : Nat} : keyV L p = keyV L a ↔ keyL L p = keyL L a := by
  unfold keyV keyL
  constructor
  · intro e
    simp only [Value.agg.injEq, Array.mk.injEq, List.cons.injEq, Value.int.injEq, true_and, and_true] at e
    obtain ⟨e0, e1, e2, e3⟩ := e
    rw [e0, e1, e2, e3]
  · intro e
    simp only [List.cons.injEq, and_true] at e
    obtain ⟨e0, e1, e2, e3⟩ := e
    rw [e0, e1, e2, e3]
/-- the places ahead of n where what stands at a begins -/
def plc (L : List Int) (a : Nat) (n : Nat) : List Nat := (List.range n).filter fun q => decide (q + 4 ≤ L.length ∧ keyL L q = keyL L a)
theorem plc_mem {L : List Int} {a n q : Nat} : q ∈ plc L a n ↔ q < n ∧ q + 4 ≤ L.length ∧ keyV L q = keyV L a := by
  unfold plc
  rw [List.mem_filter, List.mem_range, decide_eq_true_eq, keyV_iff]
theorem plc_succ_yes {L : List Int} {a n : Nat} (h : n + 4 ≤ L.length) (hk : keyV L n = keyV L a) : plc L a (n + 1) = plc L a n ++ [n] := by
  rw [keyV_iff] at hk
  unfold plc
  rw [List.range_succ, List.filter_append]
  simp [h, hk]
theorem plc_succ_no {L : List Int} {a n : Nat} (h : ¬ (n + 4 ≤ L.length ∧ keyV L n = keyV L a)) : plc L a (n + 1) = plc L a n := by
  rw [keyV_iff] at h
  unfold plc
  rw [List.range_succ, List.filter_append]
  simp only [List.filter_cons, List.filter_nil]
  rw [if_neg (by simpa using h), List.append_nil]
theorem plc_same {L : List Int} {a b n : Nat} (h : keyV L a = keyV L b) : plc L a n = plc L b n := by
  rw [keyV_iff] at h
  unfold plc
  rw [h]
theorem plc_len (L : List Int) (a n : Nat) : (plc L a n).length ≤ n := by
  have := List.length_filter_le (fun q => decide (q + 4 ≤ L.length ∧ keyL L q = keyL L a)) (List.range n)
  rw [List.length_range] at this
  exact this
theorem plc_rise (L : List Int) (a n : Nat) : (plc L a n).Pairwise (· < ·) := List.Pairwise.filter _ List.pairwise_lt_range
theorem plc_none {L : List Int} {a n : Nat} (h : ∀ q, q < n → q + 4 ≤ L.length → keyV L q ≠ keyV L a) : plc L a n = [] := by
  cases hp : plc L a n with
  | nil => rfl
  | cons q r =>
    have := (plc_mem (L := L) (a := a) (n := n) (q := q)).1 (by rw [hp]; simp)
    exact absurd this.2.2 (h q this.1 this.2.1)
abbrev intsN (l : List Nat) : List Value := l.map fun q : Nat => Value.int .i64 (q : Int)

/-- the openings of a text up to a place: the map's block is b, the rows lie from B on -/
def Opn (B b : Nat) (L : List Int) (a : Nat) (w : World) : Prop :=
  ∃ es clock, w.heap[b]? = some (.map es clock) ∧ Stamped es clock ∧ es.size ≤ a ∧ b < B ∧
    (∀ x ∈ es.toList, ∃ p, p < a ∧ p + 4 ≤ L.length ∧ x.key = keyV L p ∧ w.ownsRow B 3 1 x.val (plc L p a).length (intsN (plc L p a))) ∧
    (∀ p, p < a → p + 4 ≤ L.length → ∃ x ∈ es.toList, x.key = keyV L p) ∧
    (∀ x ∈ es.toList, ∀ y ∈ es.toList, x.key ≠ y.key → x.val.ownBlock = none ∨ x.val.ownBlock ≠ y.val.ownBlock)
theorem opn_new (w : World) (L : List Int) : Opn (w.heap.size + 1) w.heap.size L 0 (w.alloc (.map #[] 0)) :=
  ⟨#[], 0, (MapKept.heap_alloc w _).1, stamped_empty 0, Nat.le_refl _, Nat.lt_succ_self _, by simp, fun p h => by omega, by simp⟩
/-- what is made and what is written beside leaves it -/
theorem opn_kept {B b a : Nat} {L : List Int} {w w' : World} (h : Opn B b L a w) (hk : ∀ i o, w.heap[i]? = some o → (i = b ∨ ∃ cur fr, o = .cells cur 3 fr) → w'.heap[i]? = some o) (hs : w.heap.size ≤ w'.heap.size) : Opn B b L a w' := by
  obtain ⟨es, clock, hb, S, hsz, hbB, h1, h2, h3⟩ := h
  refine ⟨es, clock, hk b _ hb (Or.inl rfl), S, hsz, hbB, fun x hx => ?_, h2, h3⟩
  obtain ⟨p, p1, p2, p3, p4⟩ := h1 x hx
  refine ⟨p, p1, p2, p3, p4.1, ?_⟩
  rcases p4.2 with g | ⟨g, cap, cur, hv, hg, hh, r⟩
  · exact Or.inl g
  · exact Or.inr ⟨g, cap, cur, hv, hg, hk g _ hh (Or.inr ⟨cur, (0, 0), rfl⟩), r⟩
theorem opn_below {B b a : Nat} {L : List Int} {w w' : World} (h : Opn B b L a w) (hb : Below w.heap.size w w') : Opn B b L a w' :=
  opn_kept h (fun i o hi _ => (hb.block i (Array.getElem?_eq_some_iff.1 hi).1).trans hi) hb.size
/-- .. a row of bytes that grows -/
theorem opn_grown {B b a : Nat} {L : List Int} {w w' : World} {row : Option Nat} (h : Opn B b L a w) (hg : w.grownBy w' row) (hr : ∀ g, row = some g → ∃ cur fr, w.heap[g]? = some (.cells cur 5 fr)) : Opn B b L a w' :=
  opn_kept h (fun i o hi ho => (hg.block i (Array.getElem?_eq_some_iff.1 hi).1 (fun e => by
    obtain ⟨cur, fr, hc⟩ := hr i e.symm
    rw [hc] at hi
    obtain rfl := Option.some.inj hi
    rcases ho with rfl | ⟨cur', fr', ho⟩
    · obtain ⟨es, clock, hb, _⟩ := h
      rw [hc] at hb
      cases hb
    · cases ho)).trans hi) hg.size
/-- but for b and the rows of numbers all stays -/
def Fro (b : Nat) (w w' : World) : Prop := ∀ i o, w.heap[i]? = some o → i ≠ b → (∀ cur fr, o ≠ .cells cur 3 fr) → w'.heap[i]? = some o
theorem fro_owns {B b : Nat} {w w' : World} {v : Value} {n : Nat} {xs : List Value} (h : w.ownsRow B 5 1 v n xs) (hf : Fro b w w') (hb : b < B) : w'.ownsRow B 5 1 v n xs := by
  refine ⟨h.1, ?_⟩
  rcases h.2 with g | ⟨g, cap, cur, hv, hg, hh, r⟩
  · exact Or.inl g
  · exact Or.inr ⟨g, cap, cur, hv, hg, hf g _ hh (by omega) (fun cur' fr' e => by cases e), r⟩
end Go.Proofs.Ytgcpdifggjkdhab
