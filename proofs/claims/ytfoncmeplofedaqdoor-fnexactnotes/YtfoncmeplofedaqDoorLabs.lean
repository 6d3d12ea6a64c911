/- A SCOPE WITH ANY LABELS: what holds at each of them at every jump, a ghost number that every pass lowers. It speaks of no program. -/
import Derived.Test.YtfoncmeplofedaqDoorBasis
import Derived.Scope
import Derived.WalkMore
namespace Go.Proofs.YtfoncmeplofedaqDoor
open Go
/-- as Q; by a goto to label l: J l -/
def leapTo (J : Nat → Act → World → Prop) (Q : Exit → Act → World → Prop) : Exit → Act → World → Prop
  | .goto l, a, w => J l a w
  | e, a, w => Q e a w
@[go_sem] theorem leapTo_goto (J : Nat → Act → World → Prop) (Q : Exit → Act → World → Prop) (l : Nat) (a : Act) (w : World) : leapTo J Q (.goto l) a w = J l a w := rfl
@[go_sem] theorem leapTo_ret (J : Nat → Act → World → Prop) (Q : Exit → Act → World → Prop) (a : Act) (w : World) : leapTo J Q .ret a w = Q .ret a w := rfl
@[go_sem] theorem leapTo_normal (J : Nat → Act → World → Prop) (Q : Exit → Act → World → Prop) (a : Act) (w : World) : leapTo J Q .normal a w = Q .normal a w := rfl
@[go_sem] theorem leapTo_exit (J : Nat → Act → World → Prop) (Q : Exit → Act → World → Prop) (i : Nat) (a : Act) (w : World) : leapTo J Q (.exit i) a w = Q (.exit i) a w := rfl
theorem wp_scope_labels {P : Program} {a : Act} {w : World} {Q : Exit → Act → World → Prop} {c : Code} (J : Nat → Nat → Act → World → Prop)
    (start : c.wp P (leapTo (fun l a w => ∃ n, J n l a w) Q) a w)
    (each : ∀ n l a w, J n l a w → ∃ r, findLabel c l = some r ∧ r.wp P (leapTo (fun l' a' w' => ∃ m, m < n ∧ J m l' a' w') Q) a w) : (Code.scope c).wp P Q a w := by
  intro b k cs
  have land : ∀ l r, findLabel c l = some r → gotoIn l (.inScope c :: k) = some (.code r :: .inScope c :: k) := fun l r h => by simp [gotoIn, h]
  have run : ∀ N n l x v r, n ≤ N → J n l x v → findLabel c l = some r → ∃ e y u, Q e y u ∧ Arrives P (lone (b.at x (.code r :: .inScope c :: k)) cs v) b k cs e y u := by
    intro N
    induction N with
    | zero =>
      intro n l x v r hn hj hr
      obtain ⟨r2, h2, hp⟩ := each n l x v hj
      obtain rfl : r2 = r := Option.some.inj (h2.symm.trans hr)
      obtain ⟨e, y, u, hq, ha⟩ := hp b (.inScope c :: k) cs
      cases e with
      | goto l2 =>
        obtain ⟨m, hm, _⟩ := hq
        omega
      | normal => exact ⟨.normal, y, u, hq, Steps.trans ha (.one step_inScope)⟩
      | exit id => exact ⟨.exit id, y, u, hq, fun k' hk => ha k' (by simp [exitTo, hk])⟩
      | ret => exact ⟨_, y, u, hq, ha⟩
      | panic ch => exact ⟨_, y, u, hq, ha⟩
      | outgrown => exact ⟨_, y, u, hq, ha⟩
    | succ N ih =>
      intro n l x v r hn hj hr
      obtain ⟨r2, h2, hp⟩ := each n l x v hj
      obtain rfl : r2 = r := Option.some.inj (h2.symm.trans hr)
      obtain ⟨e, y, u, hq, ha⟩ := hp b (.inScope c :: k) cs
      cases e with
      | goto l2 =>
        obtain ⟨m, hm, hj2⟩ := hq
        obtain ⟨r3, h3, _⟩ := each m l2 y u hj2
        obtain ⟨e9, y9, u9, hq9, ha9⟩ := ih m l2 y u r3 (by omega) hj2 h3
        exact ⟨e9, y9, u9, hq9, .of_steps (ha _ (land l2 r3 h3)) ha9⟩
      | normal => exact ⟨.normal, y, u, hq, Steps.trans ha (.one step_inScope)⟩
      | exit id => exact ⟨.exit id, y, u, hq, fun k' hk => ha k' (by simp [exitTo, hk])⟩
      | ret => exact ⟨_, y, u, hq, ha⟩
      | panic ch => exact ⟨_, y, u, hq, ha⟩
      | outgrown => exact ⟨_, y, u, hq, ha⟩
  obtain ⟨e, y, u, hq, ha⟩ := start b (.inScope c :: k) cs
  cases e with
  | goto l2 =>
    obtain ⟨m, hj2⟩ := hq
    obtain ⟨r3, h3, _⟩ := each m l2 y u hj2
    obtain ⟨e9, y9, u9, hq9, ha9⟩ := run m m l2 y u r3 (Nat.le_refl _) hj2 h3
    exact ⟨e9, y9, u9, hq9, .of_steps (.head step_scope (ha _ (land l2 r3 h3))) ha9⟩
  | normal => exact ⟨.normal, y, u, hq, .head step_scope (Steps.trans ha (.one step_inScope))⟩
  | exit id => exact ⟨.exit id, y, u, hq, fun k' hk => .head step_scope (ha k' (by simp [exitTo, hk]))⟩
  | ret => exact ⟨_, y, u, hq, .of_steps (.one step_scope) ha⟩
  | panic ch => exact ⟨_, y, u, hq, .of_steps (.one step_scope) ha⟩
  | outgrown => exact ⟨_, y, u, hq, .of_steps (.one step_scope) ha⟩
end Go.Proofs.YtfoncmeplofedaqDoor
