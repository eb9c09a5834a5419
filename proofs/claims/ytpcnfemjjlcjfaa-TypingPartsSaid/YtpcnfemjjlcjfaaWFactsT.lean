/-
  As the text of regions by facts, for a region whose last operations come in one order behind all others: these are walked one by one. Blocks that the region makes are known to be apart.
-/
import Derived.StillTail
import Derived.Test.YtpcnfemjjlcjfaaWFacts
/-! FactsT -/
namespace Go.Proofs.Ytpcnfemjjlcjfaa
open Go.RowKit

theorem filter_one {p q : Nat → Bool} {i : Nat} (hq : ∀ j, q j = (p j && decide (j ≠ i))) (hp : p i = true) : ∀ {L : List Nat}, L.Nodup → i ∈ L → (L.filter q).length + 1 = (L.filter p).length
  | j :: r, hn, h => by
    rw [List.nodup_cons] at hn
    by_cases e : j = i
    · subst e
      have hqj : q j = false := by rw [hq]; simp
      have hr : r.filter q = r.filter p := List.filter_congr fun k hk => by
        have : k ≠ j := fun e => hn.1 (e ▸ hk)
        rw [hq]; simp [this]
      rw [List.filter_cons, List.filter_cons, hp, hqj, hr]
      simp
    · have h2 : i ∈ r := by
        rcases List.mem_cons.1 h with h | h
        · exact absurd h.symm e
        · exact h
      have ih := filter_one hq hp hn.2 h2
      have hqj : q j = p j := by rw [hq]; simp [e]
      rw [List.filter_cons, List.filter_cons, hqj]
      cases p j <;> simp <;> omega

section
variable {P : Program} {ops : Array Oper} {fr : (Nat → Value) → Act} {C : World → Prop} {fs : List Fact} {new : List Nat}

end

/-! How an operation's share is paid. -/

theorem want_yes {b : Bool} {A B : Prop} (h : b = true) (hA : A) : if b = true then A else B := by rw [if_pos h]; exact hA
theorem want_no {b : Bool} {A B : Prop} (h : b = false) (hB : B) : if b = true then A else B := by rw [h]; simpa using hB
theorem leads_value {P : Program} {o : Oper} {a : Act} {w w' : World} {v : Value} {R : Value → World → Prop} (h : (execOp a.eval o).run P w = .ok (.value v) w') (hR : R v w') : leads P o a w R := by
  unfold leads; rw [h]; exact hR
end Go.Proofs.Ytpcnfemjjlcjfaa
