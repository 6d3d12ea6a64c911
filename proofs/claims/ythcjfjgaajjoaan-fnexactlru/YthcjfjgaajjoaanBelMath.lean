/- BELADY, over lists: all ways to choose which one goes; none misses less than the one that lets go what is called again the latest. It speaks of no function of the program. -/
import Derived.Test.YthcjfjgaajjoaanBasis
namespace Go.Proofs.Ythcjfjgaajjoaan
set_option linter.unusedVariables false
/-- one more at hand -/
def addP (P : Int → Prop) (q : Int) : Int → Prop := fun z => P z ∨ z = q
/-- one for another -/
def repP (P : Int → Prop) (y q : Int) : Int → Prop := fun z => (P z ∧ z ≠ y) ∨ z = q
/-- a way with so many misses -/
inductive Way (r : Nat) : List Int → (Int → Prop) → Nat → Nat → Prop
  | nil {P k} : Way r [] P k 0
  | hit {q cs P k m} : P q → Way r cs P k m → Way r (q :: cs) P k m
  | add {q cs P k m} : ¬ P q → k < r → Way r cs (addP P q) (k + 1) m → Way r (q :: cs) P k (m + 1)
  | rep {q cs P k m} (y : Int) : ¬ P q → k = r → P y → Way r cs (repP P y q) k m → Way r (q :: cs) P k (m + 1)
theorem way_hit {r : Nat} {q : Int} {cs : List Int} {P : Int → Prop} {k m : Nat} (h : P q) (w : Way r (q :: cs) P k m) : Way r cs P k m := by
  cases w with
  | hit _ w => exact w
  | add hn _ _ => exact absurd h hn
  | rep _ hn _ _ _ => exact absurd h hn
theorem way_add {r : Nat} {q : Int} {cs : List Int} {P : Int → Prop} {k m : Nat} (h : ¬ P q) (hk : k < r) (w : Way r (q :: cs) P k m) : ∃ m', m = m' + 1 ∧ Way r cs (addP P q) (k + 1) m' := by
  cases w with
  | hit hp _ => exact absurd hp h
  | add _ _ w => exact ⟨_, rfl, w⟩
  | rep _ _ hk2 _ _ => omega
theorem way_rep {r : Nat} {q : Int} {cs : List Int} {P : Int → Prop} {k m : Nat} (h : ¬ P q) (hk : k = r) (w : Way r (q :: cs) P k m) : ∃ m' y, m = m' + 1 ∧ P y ∧ Way r cs (repP P y q) k m' := by
  cases w with
  | hit hp _ => exact absurd hp h
  | add _ hk2 _ => omega
  | rep y _ _ hy w => exact ⟨_, y, rfl, hy, w⟩
theorem setP {P Q : Int → Prop} (h : ∀ z, P z ↔ Q z) : P = Q := funext fun z => propext (h z)
theorem add_comm (X : Int → Prop) (a q : Int) : addP (addP X a) q = addP (addP X q) a := setP fun z => by simp only [addP]; constructor <;> (intro h; rcases h with (h | h) | h <;> simp [h])
/-- more at hand: no more misses, and at most one less; one for another: at most one -/
theorem way_four (r : Nat) : ∀ (c : List Int),
    (∀ (X : Int → Prop) (a : Int) (k m : Nat), ¬ X a → k + 1 ≤ r → Way r c X k m → ∃ m', m' ≤ m ∧ Way r c (addP X a) (k + 1) m') ∧
    (∀ (X : Int → Prop) (a : Int) (k m : Nat), ¬ X a → k + 1 ≤ r → Way r c (addP X a) (k + 1) m → ∃ m', m' ≤ m + 1 ∧ Way r c X k m') ∧
    (∀ (X : Int → Prop) (a b : Int) (k m : Nat), ¬ X a → ¬ X b → k ≤ r → Way r c (addP X b) k m → ∃ m', m' ≤ m + 1 ∧ Way r c (addP X a) k m')
  | [] => by
    refine ⟨fun X a k m _ _ w => ?_, fun X a k m _ _ w => ?_, fun X a b k m _ _ _ w => ?_⟩
    · exact ⟨0, Nat.zero_le _, .nil⟩
    · exact ⟨0, Nat.zero_le _, .nil⟩
    · exact ⟨0, Nat.zero_le _, .nil⟩
  | q :: cs => by
    obtain ⟨ihD, ihB, ihC⟩ := way_four r cs
    refine ⟨fun X a k m ha hk w => ?_, fun X a k m ha hk w => ?_, fun X a b k m ha hb hk w => ?_⟩
    · -- more is no worse
      by_cases hq : X q
      · obtain ⟨m', h1, w'⟩ := ihD X a k m ha hk (way_hit hq w)
        exact ⟨m', h1, .hit (Or.inl hq) w'⟩
      · obtain ⟨m1, rfl, w1⟩ := way_add hq (by omega) w
        by_cases hqa : q = a
        · subst hqa
          exact ⟨m1, by omega, .hit (Or.inr rfl) w1⟩
        · have hn : ¬ addP X a q := fun h => by
            rcases h with h | h
            · exact hq h
            · exact hqa h
          by_cases hf : k + 1 < r
          · obtain ⟨m', h1, w'⟩ := ihD (addP X q) a (k + 1) m1 (fun h => by rcases h with h | h; exact ha h; exact hqa h.symm) (by omega) w1
            exact ⟨m' + 1, by omega, .add hn hf (by rw [add_comm]; exact w')⟩
          · refine ⟨m1 + 1, Nat.le_refl _, .rep a hn (by omega) (Or.inr rfl) ?_⟩
            have e : repP (addP X a) a q = addP X q := setP fun z => by
              simp only [repP, addP]
              constructor
              · rintro (⟨h | h, h2⟩ | h)
                · exact Or.inl h
                · exact absurd h h2
                · exact Or.inr h
              · rintro (h | h)
                · exact Or.inl ⟨Or.inl h, fun e => ha (e ▸ h)⟩
                · exact Or.inr h
            rw [e]; exact w1
    · -- one more helps by at most one
      by_cases hq : X q
      · obtain ⟨m', h1, w'⟩ := ihB X a k m ha hk (way_hit (Or.inl hq) w)
        exact ⟨m', h1, .hit hq w'⟩
      · by_cases hqa : q = a
        · subst hqa
          have w1 := way_hit (Or.inr rfl) w
          exact ⟨m + 1, Nat.le_refl _, .add hq (by omega) w1⟩
        · have hn : ¬ addP X a q := fun h => by
            rcases h with h | h
            · exact hq h
            · exact hqa h
          have haq : ¬ addP X q a := fun h => by
            rcases h with h | h
            · exact ha h
            · exact hqa h.symm
          by_cases hf : k + 1 < r
          · obtain ⟨m1, rfl, w1⟩ := way_add hn hf w
            rw [add_comm] at w1
            obtain ⟨m', h1, w'⟩ := ihB (addP X q) a (k + 1) m1 haq (by omega) w1
            exact ⟨m' + 1, by omega, .add hq (by omega) w'⟩
          · obtain ⟨m1, y, rfl, hy, w1⟩ := way_rep hn (by omega) w
            by_cases hya : y = a
            · subst hya
              have e : repP (addP X y) y q = addP X q := setP fun z => by
                simp only [repP, addP]
                constructor
                · rintro (⟨h | h, h2⟩ | h)
                  · exact Or.inl h
                  · exact absurd h h2
                  · exact Or.inr h
                · rintro (h | h)
                  · exact Or.inl ⟨Or.inl h, fun e => ha (e ▸ h)⟩
                  · exact Or.inr h
              rw [e] at w1
              exact ⟨m1 + 1, by omega, .add hq (by omega) w1⟩
            · have hXy : X y := by
                rcases hy with h | h
                · exact h
                · exact absurd h hya
              -- the row without y, with q: Z; then with a against with y
              have e1 : repP (addP X a) y q = addP (repP X y q) a := setP fun z => by
                simp only [repP, addP]
                constructor
                · rintro (⟨h | h, h2⟩ | h)
                  · exact Or.inl (Or.inl ⟨h, h2⟩)
                  · exact Or.inr h
                  · exact Or.inl (Or.inr h)
                · rintro ((⟨h, h2⟩ | h) | h)
                  · exact Or.inl ⟨Or.inl h, h2⟩
                  · exact Or.inr h
                  · exact Or.inl ⟨Or.inr h, fun e => hya (e ▸ h)⟩
              have e2 : addP X q = addP (repP X y q) y := setP fun z => by
                simp only [repP, addP]
                constructor
                · rintro (h | h)
                  · by_cases e : z = y
                    · exact Or.inr e
                    · exact Or.inl (Or.inl ⟨h, e⟩)
                  · exact Or.inl (Or.inr h)
                · rintro ((⟨h, h2⟩ | h) | h)
                  · exact Or.inl h
                  · exact Or.inr h
                  · exact Or.inl (h ▸ hXy)
              rw [e1] at w1
              have hyq : y ≠ q := fun e => hq (e ▸ hXy)
              obtain ⟨m', h1, w'⟩ := ihC (repP X y q) y a (k + 1) m1 (fun h => by rcases h with h | h; exact h.2 rfl; exact hyq h) (fun h => by rcases h with h | h; exact ha h.1; exact hqa h.symm) (by omega) w1
              rw [← e2] at w'
              exact ⟨m' + 1, by omega, .add hq (by omega) w'⟩
    · -- one for another
      by_cases hab : a = b
      · subst hab; exact ⟨m, by omega, w⟩
      by_cases hq : X q
      · obtain ⟨m', h1, w'⟩ := ihC X a b k m ha hb hk (way_hit (Or.inl hq) w)
        exact ⟨m', h1, .hit (Or.inl hq) w'⟩
      by_cases hqb : q = b
      · subst hqb
        have w1 := way_hit (Or.inr rfl) w
        have hn : ¬ addP X a q := fun h => by
          rcases h with h | h
          · exact hq h
          · exact hab h.symm
        by_cases hf : k < r
        · have haq : ¬ addP X q a := fun h => by
            rcases h with h | h
            · exact ha h
            · exact hab h
          obtain ⟨m', h1, w'⟩ := ihD (addP X q) a k m haq (by omega) w1
          exact ⟨m' + 1, by omega, .add hn hf (by rw [add_comm]; exact w')⟩
        · refine ⟨m + 1, Nat.le_refl _, .rep a hn (by omega) (Or.inr rfl) ?_⟩
          have e : repP (addP X a) a q = addP X q := setP fun z => by
            simp only [repP, addP]
            constructor
            · rintro (⟨h | h, h2⟩ | h)
              · exact Or.inl h
              · exact absurd h h2
              · exact Or.inr h
            · rintro (h | h)
              · exact Or.inl ⟨Or.inl h, fun e => ha (e ▸ h)⟩
              · exact Or.inr h
          rw [e]; exact w1
      have hnb : ¬ addP X b q := fun h => by
        rcases h with h | h
        · exact hq h
        · exact hqb h
      by_cases hqa : q = a
      · subst hqa
        by_cases hf : k < r
        · obtain ⟨m1, rfl, w1⟩ := way_add hnb hf w
          rw [add_comm] at w1
          obtain ⟨m', h1, w'⟩ := ihB (addP X q) b k m1 (fun h => by rcases h with h | h; exact hb h; exact hqb h.symm) (by omega) w1
          exact ⟨m', by omega, .hit (Or.inr rfl) w'⟩
        · obtain ⟨m1, y, rfl, hy, w1⟩ := way_rep hnb (by omega) w
          by_cases hyb : y = b
          · subst hyb
            have e : repP (addP X y) y q = addP X q := setP fun z => by
              simp only [repP, addP]
              constructor
              · rintro (⟨h | h, h2⟩ | h)
                · exact Or.inl h
                · exact absurd h h2
                · exact Or.inr h
              · rintro (h | h)
                · exact Or.inl ⟨Or.inl h, fun e => hb (e ▸ h)⟩
                · exact Or.inr h
            rw [e] at w1
            exact ⟨m1, by omega, .hit (Or.inr rfl) w1⟩
          · have hXy : X y := by
              rcases hy with h | h
              · exact h
              · exact absurd h hyb
            have hyq : y ≠ q := fun e => hq (e ▸ hXy)
            have e1 : repP (addP X b) y q = addP (repP X y q) b := setP fun z => by
              simp only [repP, addP]
              constructor
              · rintro (⟨h | h, h2⟩ | h)
                · exact Or.inl (Or.inl ⟨h, h2⟩)
                · exact Or.inr h
                · exact Or.inl (Or.inr h)
              · rintro ((⟨h, h2⟩ | h) | h)
                · exact Or.inl ⟨Or.inl h, h2⟩
                · exact Or.inr h
                · exact Or.inl ⟨Or.inr h, fun e => hyb (e ▸ h)⟩
            have e2 : addP X q = addP (repP X y q) y := setP fun z => by
              simp only [repP, addP]
              constructor
              · rintro (h | h)
                · by_cases e : z = y
                  · exact Or.inr e
                  · exact Or.inl (Or.inl ⟨h, e⟩)
                · exact Or.inl (Or.inr h)
              · rintro ((⟨h, h2⟩ | h) | h)
                · exact Or.inl h
                · exact Or.inr h
                · exact Or.inl (h ▸ hXy)
            rw [e1] at w1
            obtain ⟨m', h1, w'⟩ := ihC (repP X y q) y b k m1 (fun h => by rcases h with h | h; exact h.2 rfl; exact hyq h) (fun h => by rcases h with h | h; exact hb h.1; exact hqb h.symm) hk w1
            rw [← e2] at w'
            exact ⟨m', by omega, .hit (Or.inr rfl) w'⟩
      · have hna : ¬ addP X a q := fun h => by
          rcases h with h | h
          · exact hq h
          · exact hqa h
        by_cases hf : k < r
        · obtain ⟨m1, rfl, w1⟩ := way_add hnb hf w
          rw [add_comm] at w1
          obtain ⟨m', h1, w'⟩ := ihC (addP X q) a b (k + 1) m1 (fun h => by rcases h with h | h; exact ha h; exact hqa h.symm) (fun h => by rcases h with h | h; exact hb h; exact hqb h.symm) (by omega) w1
          exact ⟨m' + 1, by omega, .add hna hf (by rw [add_comm]; exact w')⟩
        · obtain ⟨m1, y, rfl, hy, w1⟩ := way_rep hnb (by omega) w
          by_cases hyb : y = b
          · subst hyb
            have e : ∀ a, ¬ X a → repP (addP X a) a q = addP X q := fun a ha => setP fun z => by
              simp only [repP, addP]
              constructor
              · rintro (⟨h | h, h2⟩ | h)
                · exact Or.inl h
                · exact absurd h h2
                · exact Or.inr h
              · rintro (h | h)
                · exact Or.inl ⟨Or.inl h, fun e => ha (e ▸ h)⟩
                · exact Or.inr h
            rw [e y hb] at w1
            exact ⟨m1 + 1, by omega, .rep a hna (by omega) (Or.inr rfl) (by rw [e a ha]; exact w1)⟩
          · have hXy : X y := by
              rcases hy with h | h
              · exact h
              · exact absurd h hyb
            have hya : y ≠ a := fun e => ha (e ▸ hXy)
            have e1 : ∀ b, y ≠ b → repP (addP X b) y q = addP (repP X y q) b := fun b hyb => setP fun z => by
              simp only [repP, addP]
              constructor
              · rintro (⟨h | h, h2⟩ | h)
                · exact Or.inl (Or.inl ⟨h, h2⟩)
                · exact Or.inr h
                · exact Or.inl (Or.inr h)
              · rintro ((⟨h, h2⟩ | h) | h)
                · exact Or.inl ⟨Or.inl h, h2⟩
                · exact Or.inr h
                · exact Or.inl ⟨Or.inr h, fun e => hyb (e ▸ h)⟩
            rw [e1 b hyb] at w1
            obtain ⟨m', h1, w'⟩ := ihC (repP X y q) a b k m1 (fun h => by rcases h with h | h; exact ha h.1; exact hqa h.symm) (fun h => by rcases h with h | h; exact hb h.1; exact hqb h.symm) hk w1
            exact ⟨m' + 1, by omega, .rep y hna (by omega) (Or.inl hXy) (by rw [e1 a hya]; exact w')⟩
/-- when it is called again; the number of calls: never -/
def nx : List Int → Int → Nat
  | [], _ => 0
  | q :: cs, x => if q = x then 0 else nx cs x + 1
theorem nx_cons {q : Int} {cs : List Int} {x : Int} (h : q ≠ x) : nx (q :: cs) x = nx cs x + 1 := by
  show (if q = x then 0 else nx cs x + 1) = _
  rw [if_neg h]
theorem nx_same {q : Int} {cs : List Int} : nx (q :: cs) q = 0 := by
  show (if q = q then 0 else nx cs q + 1) = _
  rw [if_pos rfl]
theorem rep_same {X : Int → Prop} {a q : Int} (ha : ¬ X a) : repP (addP X a) a q = addP X q := setP fun z => by
  simp only [repP, addP]
  constructor
  · rintro (⟨h | h, h2⟩ | h)
    · exact Or.inl h
    · exact absurd h h2
    · exact Or.inr h
  · rintro (h | h)
    · exact Or.inl ⟨Or.inl h, fun e => ha (e ▸ h)⟩
    · exact Or.inr h
theorem rep_add {X : Int → Prop} {b y q : Int} (hyb : y ≠ b) : repP (addP X b) y q = addP (repP X y q) b := setP fun z => by
  simp only [repP, addP]
  constructor
  · rintro (⟨h | h, h2⟩ | h)
    · exact Or.inl (Or.inl ⟨h, h2⟩)
    · exact Or.inr h
    · exact Or.inl (Or.inr h)
  · rintro ((⟨h, h2⟩ | h) | h)
    · exact Or.inl ⟨Or.inl h, h2⟩
    · exact Or.inr h
    · exact Or.inl ⟨Or.inr h, fun e => hyb (e ▸ h)⟩
theorem add_rep {X : Int → Prop} {y q : Int} (hXy : X y) : addP X q = addP (repP X y q) y := setP fun z => by
  simp only [repP, addP]
  constructor
  · rintro (h | h)
    · by_cases e : z = y
      · exact Or.inr e
      · exact Or.inl (Or.inl ⟨h, e⟩)
    · exact Or.inl (Or.inr h)
  · rintro ((⟨h, h2⟩ | h) | h)
    · exact Or.inl h
    · exact Or.inr h
    · exact Or.inl (h ▸ hXy)
/-- who has at hand what is called sooner misses no more -/
theorem way_swap (r : Nat) : ∀ (c : List Int) (X : Int → Prop) (a b : Int) (k m : Nat), ¬ X a → ¬ X b → k ≤ r → nx c a ≤ nx c b → Way r c (addP X b) k m → ∃ m', m' ≤ m ∧ Way r c (addP X a) k m'
  | [], X, a, b, k, m, _, _, _, _, _ => ⟨0, Nat.zero_le _, .nil⟩
  | q :: cs, X, a, b, k, m, ha, hb, hk, hx, w => by
    by_cases hab : a = b
    · subst hab; exact ⟨m, Nat.le_refl _, w⟩
    obtain ⟨ihD, ihB, ihC⟩ := way_four r cs
    by_cases hq : X q
    · have h1 : q ≠ a := fun e => ha (e ▸ hq)
      have h2 : q ≠ b := fun e => hb (e ▸ hq)
      rw [nx_cons h1, nx_cons h2] at hx
      obtain ⟨m', h1, w'⟩ := way_swap r cs X a b k m ha hb hk (by omega) (way_hit (Or.inl hq) w)
      exact ⟨m', h1, .hit (Or.inl hq) w'⟩
    by_cases hqb : q = b
    · subst hqb
      rw [nx_same, nx_cons (fun e => hab e.symm)] at hx
      omega
    have hnb : ¬ addP X b q := fun h => by
      rcases h with h | h
      · exact hq h
      · exact hqb h
    by_cases hqa : q = a
    · subst hqa
      by_cases hf : k < r
      · obtain ⟨m1, rfl, w1⟩ := way_add hnb hf w
        rw [add_comm] at w1
        obtain ⟨m', h1, w'⟩ := ihB (addP X q) b k m1 (fun h => by rcases h with h | h; exact hb h; exact hqb h.symm) (by omega) w1
        exact ⟨m', by omega, .hit (Or.inr rfl) w'⟩
      · obtain ⟨m1, y, rfl, hy, w1⟩ := way_rep hnb (by omega) w
        by_cases hyb : y = b
        · subst hyb
          rw [rep_same hb] at w1
          exact ⟨m1, by omega, .hit (Or.inr rfl) w1⟩
        · have hXy : X y := by
            rcases hy with h | h
            · exact h
            · exact absurd h hyb
          have hyq : y ≠ q := fun e => hq (e ▸ hXy)
          rw [rep_add hyb] at w1
          obtain ⟨m', h1, w'⟩ := ihC (repP X y q) y b k m1 (fun h => by rcases h with h | h; exact h.2 rfl; exact hyq h) (fun h => by rcases h with h | h; exact hb h.1; exact hqb h.symm) hk w1
          rw [← add_rep hXy] at w'
          exact ⟨m', by omega, .hit (Or.inr rfl) w'⟩
    · have hna : ¬ addP X a q := fun h => by
        rcases h with h | h
        · exact hq h
        · exact hqa h
      rw [nx_cons hqa, nx_cons hqb] at hx
      by_cases hf : k < r
      · obtain ⟨m1, rfl, w1⟩ := way_add hnb hf w
        rw [add_comm] at w1
        obtain ⟨m', h1, w'⟩ := way_swap r cs (addP X q) a b (k + 1) m1 (fun h => by rcases h with h | h; exact ha h; exact hqa h.symm) (fun h => by rcases h with h | h; exact hb h; exact hqb h.symm) (by omega) (by omega) w1
        exact ⟨m' + 1, by omega, .add hna hf (by rw [add_comm]; exact w')⟩
      · obtain ⟨m1, y, rfl, hy, w1⟩ := way_rep hnb (by omega) w
        by_cases hyb : y = b
        · subst hyb
          rw [rep_same hb] at w1
          exact ⟨m1 + 1, Nat.le_refl _, .rep a hna (by omega) (Or.inr rfl) (by rw [rep_same ha]; exact w1)⟩
        · have hXy : X y := by
            rcases hy with h | h
            · exact h
            · exact absurd h hyb
          have hya : y ≠ a := fun e => ha (e ▸ hXy)
          rw [rep_add hyb] at w1
          obtain ⟨m', h1, w'⟩ := way_swap r cs (repP X y q) a b k m1 (fun h => by rcases h with h | h; exact ha h.1; exact hqa h.symm) (fun h => by rcases h with h | h; exact hb h.1; exact hqb h.symm) hk (by omega) w1
          exact ⟨m' + 1, by omega, .rep y hna (by omega) (Or.inl hXy) (by rw [rep_add hya]; exact w')⟩
/-- letting go what is called again the latest: no worse than letting go another one -/
theorem way_far {r : Nat} {cs : List Int} {P : Int → Prop} {y z q : Int} {k m : Nat} (hk : k ≤ r) (hq : ¬ P q) (hy : P y) (hz : P z) (h : nx cs y ≤ nx cs z) (w : Way r cs (repP P y q) k m) : ∃ m', m' ≤ m ∧ Way r cs (repP P z q) k m' := by
  by_cases e : y = z
  · subst e; exact ⟨m, Nat.le_refl _, w⟩
  have hyq : y ≠ q := fun e => hq (e ▸ hy)
  have hzq : z ≠ q := fun e => hq (e ▸ hz)
  -- X: without both, with q
  have e1 : repP P y q = addP (fun x => (P x ∧ x ≠ y ∧ x ≠ z) ∨ x = q) z := setP fun x => by
    simp only [repP, addP]
    constructor
    · rintro (⟨h1, h2⟩ | h1)
      · by_cases e2 : x = z
        · exact Or.inr e2
        · exact Or.inl (Or.inl ⟨h1, h2, e2⟩)
      · exact Or.inl (Or.inr h1)
    · rintro ((⟨h1, h2, _⟩ | h1) | h1)
      · exact Or.inl ⟨h1, h2⟩
      · exact Or.inr h1
      · exact Or.inl ⟨h1 ▸ hz, fun e2 => e (e2.symm.trans h1)⟩
  have e2 : repP P z q = addP (fun x => (P x ∧ x ≠ y ∧ x ≠ z) ∨ x = q) y := setP fun x => by
    simp only [repP, addP]
    constructor
    · rintro (⟨h1, h2⟩ | h1)
      · by_cases e2 : x = y
        · exact Or.inr e2
        · exact Or.inl (Or.inl ⟨h1, e2, h2⟩)
      · exact Or.inl (Or.inr h1)
    · rintro ((⟨h1, _, h2⟩ | h1) | h1)
      · exact Or.inl ⟨h1, h2⟩
      · exact Or.inr h1
      · exact Or.inl ⟨h1 ▸ hy, fun e2 => e (h1.symm.trans e2)⟩
  rw [e1] at w
  rw [e2]
  exact way_swap r cs _ y z k m (fun h => by rcases h with h | h; exact h.2.1 rfl; exact hyq h) (fun h => by rcases h with h | h; exact h.2.2 rfl; exact hzq h) hk h w
/-- who goes: of the first k at hand the first one that is called again the latest, and when -/
def farK (cs H : List Int) : Nat → Int × Nat
  | 0 => (-1, 0)
  | k + 1 => if (farK cs H k).1 < (nx cs (H.getD k 0) : Int) then ((nx cs (H.getD k 0) : Int), k) else farK cs H k
theorem farK_is {cs H : List Int} : ∀ k, (k = 0 ∧ farK cs H k = (-1, 0)) ∨ ((farK cs H k).2 < k ∧ (farK cs H k).1 = (nx cs (H.getD (farK cs H k).2 0) : Int) ∧ ∀ j, j < k → (nx cs (H.getD j 0) : Int) ≤ (farK cs H k).1)
  | 0 => Or.inl ⟨rfl, rfl⟩
  | k + 1 => by
    refine Or.inr ?_
    show (if (farK cs H k).1 < (nx cs (H.getD k 0) : Int) then ((nx cs (H.getD k 0) : Int), k) else farK cs H k).2 < k + 1 ∧ (if (farK cs H k).1 < (nx cs (H.getD k 0) : Int) then ((nx cs (H.getD k 0) : Int), k) else farK cs H k).1 = (nx cs (H.getD (if (farK cs H k).1 < (nx cs (H.getD k 0) : Int) then ((nx cs (H.getD k 0) : Int), k) else farK cs H k).2 0) : Int) ∧ ∀ j, j < k + 1 → (nx cs (H.getD j 0) : Int) ≤ (if (farK cs H k).1 < (nx cs (H.getD k 0) : Int) then ((nx cs (H.getD k 0) : Int), k) else farK cs H k).1
    by_cases h : (farK cs H k).1 < (nx cs (H.getD k 0) : Int)
    · rw [if_pos h]
      refine ⟨Nat.lt_succ_self k, rfl, fun j hj => ?_⟩
      by_cases e : j = k
      · subst e; exact Int.le_refl _
      · rcases farK_is (cs := cs) (H := H) k with ⟨h0, _⟩ | ⟨_, _, h3⟩
        · omega
        · have := h3 j (by omega)
          simp only at this ⊢
          omega
    · rw [if_neg h]
      rcases farK_is (cs := cs) (H := H) k with ⟨h0, h1⟩ | ⟨h1, h2, h3⟩
      · rw [h1] at h
        simp only at h
        omega
      · refine ⟨by omega, h2, fun j hj => ?_⟩
        by_cases e : j = k
        · subst e; omega
        · exact h3 j (by omega)
/-- which place goes -/
def outI (rule : Nat) (cs H : List Int) : Nat := if rule = 2 then (farK cs H H.length).2 else 0
theorem outI_lt {rule : Nat} {cs H : List Int} (h : 0 < H.length) : outI rule cs H < H.length := by
  unfold outI
  split
  · rcases farK_is (cs := cs) (H := H) H.length with ⟨h0, _⟩ | ⟨h1, _⟩
    · omega
    · exact h1
  · exact h
def hitH (rule : Nat) (H : List Int) (q : Int) : List Int := if rule = 0 then H.erase q ++ [q] else H
/-- how many miss -/
def missL (rule room : Nat) : List Int → List Int → Nat
  | [], _ => 0
  | q :: cs, H => if q ∈ H then missL rule room cs (hitH rule H q) else missL rule room cs ((if H.length = room then H.eraseIdx (outI rule cs H) else H) ++ [q]) + 1
theorem missL_hit {rule room : Nat} {q : Int} {cs H : List Int} (h : q ∈ H) : missL rule room (q :: cs) H = missL rule room cs (hitH rule H q) := by
  show (if q ∈ H then _ else _) = _
  rw [if_pos h]
theorem missL_new {rule room : Nat} {q : Int} {cs H : List Int} (h : q ∉ H) : missL rule room (q :: cs) H = missL rule room cs ((if H.length = room then H.eraseIdx (outI rule cs H) else H) ++ [q]) + 1 := by
  show (if q ∈ H then _ else _) = _
  rw [if_neg h]
/-- at hand, each once, at most so many -/
def Hand (room : Nat) (H : List Int) : Prop := H.Nodup ∧ H.length ≤ room
theorem hitH_mem {rule : Nat} {H : List Int} {q z : Int} (h : q ∈ H) : z ∈ hitH rule H q ↔ z ∈ H := by
  unfold hitH
  split
  · rw [List.mem_append, List.mem_singleton]
    by_cases e : z = q
    · subst e; simp [h]
    · rw [List.mem_erase_of_ne e]
      simp [e]
  · exact Iff.rfl
theorem hitH_hand {rule room : Nat} {H : List Int} {q : Int} (hH : Hand room H) (h : q ∈ H) : Hand room (hitH rule H q) ∧ (hitH rule H q).length = H.length := by
  unfold hitH
  split
  · have hl := List.length_erase_of_mem h
    have hp : 0 < H.length := List.length_pos_of_mem h
    refine ⟨⟨List.nodup_append.2 ⟨hH.1.erase q, by simp, fun a ha b hb e => ?_⟩, ?_⟩, ?_⟩
    · rw [List.mem_singleton.1 hb] at e
      subst e
      exact (List.Nodup.not_mem_erase hH.1) ha
    · rw [List.length_append, hl, List.length_singleton]; have := hH.2; omega
    · rw [List.length_append, hl, List.length_singleton]; omega
  · exact ⟨hH, rfl⟩
theorem mem_eraseIdx {H : List Int} (hn : H.Nodup) {i : Nat} (hi : i < H.length) (z : Int) : z ∈ H.eraseIdx i ↔ z ∈ H ∧ z ≠ H.getD i 0 := by
  have e : H.getD i 0 = H[i] := by simp [List.getD, hi]
  rw [e, List.mem_eraseIdx_iff_getElem]
  constructor
  · rintro ⟨j, hj, hne, rfl⟩
    exact ⟨List.getElem_mem hj, fun e2 => hne ((List.getElem_inj hn).1 e2)⟩
  · rintro ⟨h1, h2⟩
    obtain ⟨j, hj, rfl⟩ := List.getElem_of_mem h1
    exact ⟨j, hj, fun e2 => h2 (by subst e2; rfl), rfl⟩
theorem new_hand {rule room : Nat} {cs H : List Int} {q : Int} (hr : 1 ≤ room) (hH : Hand room H) (h : q ∉ H) : Hand room ((if H.length = room then H.eraseIdx (outI rule cs H) else H) ++ [q]) := by
  split
  · rename_i hf
    have hi := outI_lt (rule := rule) (cs := cs) (H := H) (by omega)
    refine ⟨List.nodup_append.2 ⟨hH.1.eraseIdx _, by simp, fun a ha b hb e => ?_⟩, ?_⟩
    · rw [List.mem_singleton.1 hb] at e
      subst e
      exact h (List.mem_of_mem_eraseIdx ha)
    · rw [List.length_append, List.length_eraseIdx_of_lt hi, List.length_singleton]; omega
  · rename_i hf
    refine ⟨List.nodup_append.2 ⟨hH.1, by simp, fun a ha b hb e => ?_⟩, ?_⟩
    · rw [List.mem_singleton.1 hb] at e
      subst e
      exact h ha
    · rw [List.length_append, List.length_singleton]; have := hH.2; omega
abbrev inH (H : List Int) : Int → Prop := fun z => z ∈ H
/-- each rule's misses are those of a way -/
theorem way_miss {rule room : Nat} (hr : 1 ≤ room) : ∀ (c H : List Int), Hand room H → Way room c (inH H) H.length (missL rule room c H)
  | [], H, _ => .nil
  | q :: cs, H, hH => by
    by_cases h : q ∈ H
    · rw [missL_hit h]
      obtain ⟨h1, h2⟩ := hitH_hand (rule := rule) hH h
      have w := way_miss (rule := rule) hr cs _ h1
      have e : inH (hitH rule H q) = inH H := setP fun z => hitH_mem h
      rw [e, h2] at w
      exact .hit h w
    · rw [missL_new h]
      have hn := new_hand (rule := rule) (cs := cs) hr hH h
      have w := way_miss (rule := rule) hr cs _ hn
      by_cases hf : H.length = room
      · rw [if_pos hf] at w ⊢
        have hi := outI_lt (rule := rule) (cs := cs) (H := H) (by omega)
        have e : inH (H.eraseIdx (outI rule cs H) ++ [q]) = repP (inH H) (H.getD (outI rule cs H) 0) q := setP fun z => by
          simp only [repP, inH]
          rw [List.mem_append, List.mem_singleton, mem_eraseIdx hH.1 hi]
        have el : (H.eraseIdx (outI rule cs H) ++ [q]).length = H.length := by rw [List.length_append, List.length_eraseIdx_of_lt hi, List.length_singleton]; omega
        rw [e, el] at w
        exact .rep _ h hf (by have e2 : H.getD (outI rule cs H) 0 = H[outI rule cs H] := by simp [List.getD, hi]
                              show _ ∈ H
                              rw [e2]; exact List.getElem_mem hi) w
      · rw [if_neg hf] at w ⊢
        have e : inH (H ++ [q]) = addP (inH H) q := setP fun z => by
          simp only [addP, inH]
          rw [List.mem_append, List.mem_singleton]
        rw [e, List.length_append, List.length_singleton] at w
        exact .add h (by have := hH.2; omega) w
/-- BELADY: no way misses less -/
theorem best_low {room : Nat} (hr : 1 ≤ room) : ∀ (c H : List Int) (m : Nat), Hand room H → Way room c (inH H) H.length m → missL 2 room c H ≤ m
  | [], H, m, _, _ => Nat.zero_le _
  | q :: cs, H, m, hH, w => by
    by_cases h : q ∈ H
    · rw [missL_hit h]
      have e : hitH 2 H q = H := rfl
      rw [e]
      exact best_low hr cs H m hH (way_hit h w)
    · rw [missL_new h]
      have hn := new_hand (rule := 2) (cs := cs) hr hH h
      by_cases hf : H.length = room
      · obtain ⟨m1, y, rfl, hy, w1⟩ := way_rep h hf w
        rw [if_pos hf] at hn ⊢
        have hi := outI_lt (rule := 2) (cs := cs) (H := H) (by omega)
        have e2 : H.getD (outI 2 cs H) 0 = H[outI 2 cs H] := by simp [List.getD, hi]
        have hz : H.getD (outI 2 cs H) 0 ∈ H := by rw [e2]; exact List.getElem_mem hi
        have hfar : nx cs y ≤ nx cs (H.getD (outI 2 cs H) 0) := by
          obtain ⟨j, hj, rfl⟩ := List.getElem_of_mem hy
          rcases farK_is (cs := cs) (H := H) H.length with ⟨h0, _⟩ | ⟨_, h2, h3⟩
          · omega
          · have h4 := h3 j hj
            have e3 : H.getD j 0 = H[j] := by simp [List.getD, hj]
            rw [e3] at h4
            show nx cs H[j] ≤ nx cs (H.getD (farK cs H H.length).2 0)
            omega
        obtain ⟨m', h1, w'⟩ := way_far (Nat.le_of_eq hf) h hy hz hfar w1
        have e : inH (H.eraseIdx (outI 2 cs H) ++ [q]) = repP (inH H) (H.getD (outI 2 cs H) 0) q := setP fun z => by
          simp only [repP, inH]
          rw [List.mem_append, List.mem_singleton, mem_eraseIdx hH.1 hi]
        have el : (H.eraseIdx (outI 2 cs H) ++ [q]).length = H.length := by rw [List.length_append, List.length_eraseIdx_of_lt hi, List.length_singleton]; omega
        rw [← e, ← el] at w'
        have := best_low hr cs _ m' hn w'
        omega
      · rw [if_neg hf] at hn ⊢
        obtain ⟨m1, rfl, w1⟩ := way_add h (by have := hH.2; omega) w
        have e : inH (H ++ [q]) = addP (inH H) q := setP fun z => by
          simp only [addP, inH]
          rw [List.mem_append, List.mem_singleton]
        have el : (H ++ [q]).length = H.length + 1 := by rw [List.length_append, List.length_singleton]
        rw [← e, ← el] at w1
        have := best_low hr cs _ m1 hn w1
        omega
/-- the unlike ones, in the order in which they came -/
def distK : List Int → List Int → List Int
  | [], o => o
  | q :: cs, o => if q ∈ o then distK cs o else distK cs (o ++ [q])
theorem distK_old {q : Int} {cs o : List Int} (h : q ∈ o) : distK (q :: cs) o = distK cs o := by
  show (if q ∈ o then _ else _) = _
  rw [if_pos h]
theorem distK_new {q : Int} {cs o : List Int} (h : q ∉ o) : distK (q :: cs) o = distK cs (o ++ [q]) := by
  show (if q ∈ o then _ else _) = _
  rw [if_neg h]
theorem distK_len : ∀ (c o : List Int), o.length ≤ (distK c o).length
  | [], o => Nat.le_refl _
  | q :: cs, o => by
    by_cases h : q ∈ o
    · rw [distK_old h]; exact distK_len cs o
    · rw [distK_new h]
      have := distK_len cs (o ++ [q])
      rw [List.length_append, List.length_singleton] at this
      omega
/-- each unlike one misses once -/
theorem way_dist {r : Nat} : ∀ (c : List Int) (P : Int → Prop) (k m : Nat) (o : List Int), (∀ z, P z → z ∈ o) → Way r c P k m → (distK c o).length ≤ o.length + m
  | [], P, k, m, o, _, _ => by show o.length ≤ _; omega
  | q :: cs, P, k, m, o, hP, w => by
    by_cases h : q ∈ o
    · rw [distK_old h]
      cases w with
      | hit _ w => exact way_dist cs P k m o hP w
      | add _ _ w =>
        have := way_dist cs (addP P q) _ _ o (fun z hz => by rcases hz with hz | hz; exact hP z hz; exact hz ▸ h) w
        omega
      | rep y _ _ _ w =>
        have := way_dist cs (repP P y q) _ _ o (fun z hz => by rcases hz with hz | hz; exact hP z hz.1; exact hz ▸ h) w
        omega
    · rw [distK_new h]
      have hl : (o ++ [q]).length = o.length + 1 := by rw [List.length_append, List.length_singleton]
      cases w with
      | hit hp w => exact absurd (hP q hp) h
      | add _ _ w =>
        have := way_dist cs (addP P q) _ _ (o ++ [q]) (fun z hz => by rcases hz with hz | hz; exact List.mem_append_left _ (hP z hz); rw [hz]; simp) w
        omega
      | rep y _ _ _ w =>
        have := way_dist cs (repP P y q) _ _ (o ++ [q]) (fun z hz => by rcases hz with hz | hz; exact List.mem_append_left _ (hP z hz.1); rw [hz]; simp) w
        omega
theorem missL_le (rule room : Nat) : ∀ (c H : List Int), missL rule room c H ≤ c.length
  | [], H => Nat.le_refl _
  | q :: cs, H => by
    by_cases h : q ∈ H
    · rw [missL_hit h, List.length_cons]
      have := missL_le rule room cs (hitH rule H q)
      omega
    · rw [missL_new h, List.length_cons]
      have := missL_le rule room cs ((if H.length = room then H.eraseIdx (outI rule cs H) else H) ++ [q])
      omega
/-- with room for all each unlike one misses just once -/
theorem missL_all {rule room : Nat} : ∀ (c H o : List Int), Hand room H → (∀ z, z ∈ H ↔ z ∈ o) → H.length = o.length → (distK c o).length ≤ room → missL rule room c H + o.length = (distK c o).length
  | [], H, o, _, _, _, _ => by show 0 + o.length = o.length; omega
  | q :: cs, H, o, hH, hm, hl, hd => by
    by_cases h : q ∈ H
    · have ho := (hm q).1 h
      rw [distK_old ho] at hd ⊢
      rw [missL_hit h]
      obtain ⟨h1, h2⟩ := hitH_hand (rule := rule) hH h
      exact missL_all cs _ o h1 (fun z => (hitH_mem h).trans (hm z)) (by omega) hd
    · have ho : q ∉ o := fun e => h ((hm q).2 e)
      rw [distK_new ho] at hd ⊢
      rw [missL_new h]
      have h1 := distK_len cs (o ++ [q])
      rw [List.length_append, List.length_singleton] at h1
      rw [if_neg (by omega)]
      have := missL_all (rule := rule) (room := room) cs (H ++ [q]) (o ++ [q]) ⟨List.nodup_append.2 ⟨hH.1, by simp, fun a ha b hb e => by
          rw [List.mem_singleton.1 hb] at e
          subst e
          exact h ha⟩, by rw [List.length_append, List.length_singleton]; omega⟩ (fun z => by rw [List.mem_append, List.mem_append, hm z]) (by rw [List.length_append, List.length_append]; simp [hl]) hd
      rw [List.length_append, List.length_singleton] at this
      omega
/-- MATTSON: with more room the one called last first misses no more -/
theorem lru_more {room : Nat} (hr : 1 ≤ room) : ∀ (c H K : List Int), Hand room H → K.Nodup → (K = H ∨ ∃ a, K = a :: H ∧ H.length = room) → missL 0 (room + 1) c K ≤ missL 0 room c H
  | [], H, K, _, _, _ => Nat.le_refl _
  | q :: cs, H, K, hH, hK, hKH => by
    have hout : ∀ L : List Int, outI 0 cs L = 0 := fun L => rfl
    have nodup_snoc : ∀ {L : List Int} {q : Int}, L.Nodup → q ∉ L → (L ++ [q]).Nodup := fun {L q} h1 h2 => List.nodup_append.2 ⟨h1, by simp, fun a ha b hb e => by
      rw [List.mem_singleton.1 hb] at e
      subst e
      exact h2 ha⟩
    by_cases h : q ∈ H
    · have hqK : q ∈ K := by
        rcases hKH with e | ⟨a, e, _⟩
        · rw [e]; exact h
        · rw [e]; exact List.mem_cons_of_mem _ h
      rw [missL_hit h, missL_hit hqK]
      obtain ⟨h1, h2⟩ := hitH_hand (rule := 0) hH h
      have h3 := (hitH_hand (rule := 0) (room := K.length) ⟨hK, Nat.le_refl _⟩ hqK).1
      refine lru_more hr cs _ _ h1 h3.1 ?_
      rcases hKH with e | ⟨a, e, hl⟩
      · exact Or.inl (by rw [e])
      · refine Or.inr ⟨a, ?_, by omega⟩
        have hqa : a ≠ q := fun e2 => by
          rw [e, List.nodup_cons] at hK
          exact hK.1 (e2 ▸ h)
        rw [e]
        show (a :: H).erase q ++ [q] = a :: (H.erase q ++ [q])
        rw [List.erase_cons_tail (by simpa using hqa)]
        rfl
    · rw [missL_new h, hout]
      rcases hKH with e | ⟨a, e, hl⟩
      · subst e
        rw [missL_new h, hout]
        have hlr : K.length ≤ room := hH.2
        rw [if_neg (by omega)]
        by_cases hf : K.length = room
        · rw [if_pos hf]
          have hn := new_hand (rule := 0) (cs := cs) hr hH h
          rw [if_pos hf, hout] at hn
          have := lru_more hr cs (K.eraseIdx 0 ++ [q]) (K ++ [q]) hn (nodup_snoc hK h) (Or.inr (by
            cases K with
            | nil => simp at hf; omega
            | cons a t => exact ⟨a, rfl, by simp at hf ⊢; omega⟩))
          omega
        · rw [if_neg hf]
          have := lru_more hr cs (K ++ [q]) (K ++ [q]) ⟨nodup_snoc hK h, by rw [List.length_append, List.length_singleton]; omega⟩ (nodup_snoc hK h) (Or.inl rfl)
          omega
      · subst e
        rw [if_pos hl]
        have hn := new_hand (rule := 0) (cs := cs) hr hH h
        rw [if_pos hl, hout] at hn
        have hHn : H.Nodup := hH.1
        have hcase : ∃ b t, H = b :: t := by
          cases H with
          | nil => simp at hl; omega
          | cons b t => exact ⟨b, t, rfl⟩
        obtain ⟨b, t, rfl⟩ := hcase
        by_cases hqa : q = a
        · subst hqa
          rw [missL_hit (by simp)]
          have e : hitH 0 (q :: b :: t) q = (b :: t) ++ [q] := by
            show (q :: b :: t).erase q ++ [q] = _
            rw [List.erase_cons_head]
          rw [e]
          have := lru_more hr cs ((b :: t).eraseIdx 0 ++ [q]) ((b :: t) ++ [q]) hn (nodup_snoc hHn h) (Or.inr ⟨b, rfl, by simp at hl ⊢; omega⟩)
          omega
        · rw [missL_new (by simp [hqa]; simpa using h), hout, if_pos (by rw [List.length_cons, hl])]
          have := lru_more hr cs ((b :: t).eraseIdx 0 ++ [q]) ((b :: t) ++ [q]) hn (nodup_snoc hHn h) (Or.inr ⟨b, rfl, by simp at hl ⊢; omega⟩)
          show missL 0 (room + 1) cs ((b :: t) ++ [q]) + 1 ≤ _
          omega
/-- a way with some room is one with more room, too -/
theorem way_room {r : Nat} : ∀ (c : List Int) (P Q : Int → Prop) (k j m : Nat), k ≤ r → (Q = P ∧ j = k ∨ ∃ a, ¬ P a ∧ Q = addP P a ∧ j = k + 1) → Way r c P k m → ∃ m', m' ≤ m ∧ Way (r + 1) c Q j m'
  | [], P, Q, k, j, m, _, _, _ => ⟨0, Nat.zero_le _, .nil⟩
  | q :: cs, P, Q, k, j, m, hk, hQ, w => by
    by_cases hp : P q
    · have w1 := way_hit hp w
      have hq : Q q := by
        rcases hQ with ⟨rfl, _⟩ | ⟨a, _, rfl, _⟩
        · exact hp
        · exact Or.inl hp
      obtain ⟨m', h1, w'⟩ := way_room cs P Q k j m hk hQ w1
      exact ⟨m', h1, .hit hq w'⟩
    · by_cases hf : k < r
      · obtain ⟨m1, rfl, w1⟩ := way_add hp hf w
        rcases hQ with ⟨rfl, rfl⟩ | ⟨a, ha, rfl, rfl⟩
        · obtain ⟨m', h1, w'⟩ := way_room cs _ (addP Q q) (j + 1) (j + 1) m1 (by omega) (Or.inl ⟨rfl, rfl⟩) w1
          exact ⟨m' + 1, by omega, .add hp (by omega) w'⟩
        · by_cases hqa : q = a
          · subst hqa
            obtain ⟨m', h1, w'⟩ := way_room cs _ (addP P q) (k + 1) (k + 1) m1 (by omega) (Or.inl ⟨rfl, rfl⟩) w1
            exact ⟨m', by omega, .hit (Or.inr rfl) w'⟩
          · have hn : ¬ addP P a q := fun h => by rcases h with h | h; exact hp h; exact hqa h
            obtain ⟨m', h1, w'⟩ := way_room cs _ (addP (addP P q) a) (k + 1) (k + 1 + 1) m1 (by omega) (Or.inr ⟨a, fun h => by rcases h with h | h; exact ha h; exact hqa h.symm, rfl, rfl⟩) w1
            exact ⟨m' + 1, by omega, .add hn (by omega) (by rw [add_comm]; exact w')⟩
      · obtain ⟨m1, y, rfl, hy, w1⟩ := way_rep hp (by omega) w
        have hyq : y ≠ q := fun e => hp (e ▸ hy)
        have hyn : ¬ repP P y q y := fun h => by rcases h with h | h; exact h.2 rfl; exact hyq h
        rcases hQ with ⟨rfl, rfl⟩ | ⟨a, ha, rfl, rfl⟩
        · obtain ⟨m', h1, w'⟩ := way_room cs _ (addP (repP Q y q) y) j (j + 1) m1 hk (Or.inr ⟨y, hyn, rfl, rfl⟩) w1
          rw [← add_rep hy] at w'
          exact ⟨m' + 1, by omega, .add hp (by omega) w'⟩
        · by_cases hqa : q = a
          · subst hqa
            obtain ⟨m', h1, w'⟩ := way_room cs _ (addP (repP P y q) y) k (k + 1) m1 hk (Or.inr ⟨y, hyn, rfl, rfl⟩) w1
            rw [← add_rep hy] at w'
            exact ⟨m', by omega, .hit (Or.inr rfl) w'⟩
          · have hn : ¬ addP P a q := fun h => by rcases h with h | h; exact hp h; exact hqa h
            have hya : y ≠ a := fun e => ha (e ▸ hy)
            obtain ⟨m', h1, w'⟩ := way_room cs _ (addP (repP P y q) a) k (k + 1) m1 hk (Or.inr ⟨a, fun h => by rcases h with h | h; exact ha h.1; exact hqa h.symm, rfl, rfl⟩) w1
            exact ⟨m' + 1, by omega, .rep y hn (by omega) (Or.inl hy) (by rw [rep_add hya]; exact w')⟩
end Go.Proofs.Ythcjfjgaajjoaan
