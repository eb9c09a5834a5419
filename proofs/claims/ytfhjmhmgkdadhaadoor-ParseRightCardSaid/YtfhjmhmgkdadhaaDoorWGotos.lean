/-
  A scope with any number of labels, to which the run jumps: what is said of each label, with a measure that each jump lowers.
-/
import Derived.Scope
import Derived.WalkMore
import Derived.Test.YtfhjmhmgkdadhaaDoorWLexA
/-! Gotos -/
namespace Go.Proofs.YtfhjmhmgkdadhaaDoor
open Go.RowKit

/-- As Q; by a goto to a label: what is said of that label. -/
def byGoto (J : Nat → Act → World → Prop) (Q : Exit → Act → World → Prop) : Exit → Act → World → Prop
  | .goto l, a, w => J l a w
  | e, a, w => Q e a w
section
variable {P : Program} {a : Act} {w : World} {Q : Exit → Act → World → Prop} {J : Nat → Act → World → Prop}
@[go_sem] theorem byGoto_ret : byGoto J Q .ret a w = Q .ret a w := rfl
@[go_sem] theorem byGoto_normal : byGoto J Q .normal a w = Q .normal a w := rfl
@[go_sem] theorem byGoto_goto (l : Nat) : byGoto J Q (.goto l) a w = J l a w := rfl
theorem wp_scope_gotos {c : Code} (J : Nat → Nat → Act → World → Prop)
    (first : c.wp P (byGoto (fun l a w => ∃ n, J l n a w) Q) a w)
    (pass : ∀ l n a w, J l n a w → ∃ rest, findLabel c l = some rest ∧ rest.wp P (byGoto (fun l' a' w' => ∃ n', n' < n ∧ J l' n' a' w') Q) a w) : (Code.scope c).wp P Q a w := by
  intro b k cs
  have key : ∀ n l a w, J l n a w → ∀ k', gotoIn l (.inScope c :: k) = some k' → ∃ e a' w', Q e a' w' ∧ Arrives P (lone (b.at a k') cs w) b k cs e a' w' := by
    intro n
    induction n using Nat.strongRecOn with
    | _ n ih =>
      intro l a w hJ k' hk'
      obtain ⟨rest, hf, hp⟩ := pass l n a w hJ
      have hg : gotoIn l (.inScope c :: k) = some (.code rest :: .inScope c :: k) := by simp [gotoIn, hf]
      rw [hg] at hk'
      cases hk'
      obtain ⟨e, a₁, w₁, hq, harr⟩ := hp b (.inScope c :: k) cs
      cases e with
      | normal => exact ⟨.normal, a₁, w₁, hq, Steps.trans harr (.one step_inScope)⟩
      | exit id => exact ⟨.exit id, a₁, w₁, hq, fun k' hk => harr k' (by simp [exitTo, hk])⟩
      | goto l' =>
        obtain ⟨n', hlt, hJ'⟩ := hq
        obtain ⟨rest2, hf2, -⟩ := pass l' n' a₁ w₁ hJ'
        have hg2 : gotoIn l' (.inScope c :: k) = some (.code rest2 :: .inScope c :: k) := by simp [gotoIn, hf2]
        obtain ⟨e₂, a₂, w₂, hq₂, harr₂⟩ := ih n' hlt l' a₁ w₁ hJ' _ hg2
        exact ⟨e₂, a₂, w₂, hq₂, .of_steps (harr _ hg2) harr₂⟩
      | ret => exact ⟨_, a₁, w₁, hq, harr⟩
      | panic ch => exact ⟨_, a₁, w₁, hq, harr⟩
      | outgrown => exact ⟨_, a₁, w₁, hq, harr⟩
  obtain ⟨e, a₁, w₁, hq, harr⟩ := first b (.inScope c :: k) cs
  cases e with
  | normal => exact ⟨.normal, a₁, w₁, hq, .head step_scope (Steps.trans harr (.one step_inScope))⟩
  | exit id => exact ⟨.exit id, a₁, w₁, hq, fun k' hk => .head step_scope (harr k' (by simp [exitTo, hk]))⟩
  | goto l =>
    obtain ⟨n, hJ⟩ := hq
    obtain ⟨rest, hf, -⟩ := pass l n a₁ w₁ hJ
    have hg : gotoIn l (.inScope c :: k) = some (.code rest :: .inScope c :: k) := by simp [gotoIn, hf]
    obtain ⟨e₂, a₂, w₂, hq₂, harr₂⟩ := key n l a₁ w₁ hJ _ hg
    exact ⟨e₂, a₂, w₂, hq₂, .of_steps (.head step_scope (harr _ hg)) harr₂⟩
  | ret => exact ⟨_, a₁, w₁, hq, .of_steps (.one step_scope) harr⟩
  | panic ch => exact ⟨_, a₁, w₁, hq, .of_steps (.one step_scope) harr⟩
  | outgrown => exact ⟨_, a₁, w₁, hq, .of_steps (.one step_scope) harr⟩
/-- A run from a label's place: what is said of its jumps. -/
def Passes (P : Program) (Q : Exit → Act → World → Prop) (J : Nat → Nat → Act → World → Prop) (l : Nat) (X : Code) : Prop :=
  ∀ n a w, J l n a w → X.wp P (byGoto (fun l' a' w' => ∃ n', n' < n ∧ J l' n' a' w') Q) a w
theorem Passes.fall {J : Nat → Nat → Act → World → Prop} {l n m : Nat} {X : Code} (h : Passes P Q J l X) (hm : m ≤ n) (hJ : J l m a w) : X.wp P (byGoto (fun l' a' w' => ∃ n', n' < n ∧ J l' n' a' w') Q) a w :=
  wp_mono (h m a w hJ) fun e a w hq => by
    cases e with
    | goto l' => obtain ⟨n', h1, h2⟩ := hq; exact ⟨n', Nat.lt_of_lt_of_le h1 hm, h2⟩
    | normal => exact hq
    | exit id => exact hq
    | ret => exact hq
    | panic ch => exact hq
    | outgrown => exact hq
theorem Passes.first {J : Nat → Nat → Act → World → Prop} {l m : Nat} {X : Code} (h : Passes P Q J l X) (hJ : J l m a w) : X.wp P (byGoto (fun l' a' w' => ∃ n', J l' n' a' w') Q) a w :=
  wp_mono (h m a w hJ) fun e a w hq => by
    cases e with
    | goto l' => obtain ⟨n', -, h2⟩ := hq; exact ⟨n', h2⟩
    | normal => exact hq
    | exit id => exact hq
    | ret => exact hq
    | panic ch => exact hq
    | outgrown => exact hq
theorem wp_skip_seq {X : Code} (h : X.wp P Q a w) : (Code.skip.seq X).wp P Q a w := wp_seq (wp_skip h)
/-- Four labels: the last ones first, for what falls into them. -/
theorem wp_scope_four {c X0 X1 X2 X3 : Code} (J : Nat → Nat → Act → World → Prop) (hl : ∀ l n a w, J l n a w → l < 4)
    (f0 : findLabel c 0 = some (Code.skip.seq X0)) (f1 : findLabel c 1 = some (Code.skip.seq X1)) (f2 : findLabel c 2 = some (Code.skip.seq X2)) (f3 : findLabel c 3 = some (Code.skip.seq X3))
    (h2 : Passes P Q J 2 X2) (h1 : Passes P Q J 2 X2 → Passes P Q J 1 X1) (h3 : Passes P Q J 3 X3) (h0 : Passes P Q J 3 X3 → Passes P Q J 0 X0)
    (first : Passes P Q J 0 X0 → c.wp P (byGoto (fun l a w => ∃ n, J l n a w) Q) a w) : (Code.scope c).wp P Q a w := by
  refine wp_scope_gotos J (first (h0 h3)) fun l n a w hJ => ?_
  have := hl l n a w hJ
  match l, this with
  | 0, _ => exact ⟨_, f0, wp_skip_seq (h0 h3 n a w hJ)⟩
  | 1, _ => exact ⟨_, f1, wp_skip_seq (h1 h2 n a w hJ)⟩
  | 2, _ => exact ⟨_, f2, wp_skip_seq (h2 n a w hJ)⟩
  | 3, _ => exact ⟨_, f3, wp_skip_seq (h3 n a w hJ)⟩
end
end Go.Proofs.YtfhjmhmgkdadhaaDoor
