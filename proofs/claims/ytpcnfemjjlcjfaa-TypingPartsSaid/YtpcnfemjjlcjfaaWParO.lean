/-
  Queries in plain terms: enough steps.
-/
import Derived.Test.YtpcnfemjjlcjfaaWParN
/-! ParO -/
namespace Go.Proofs.Ytpcnfemjjlcjfaa
open Go.RowKit

/-- What is read in so many steps is read in more. -/
def MoreQ (a b : QnR) : Prop := (∀ k, a ≠ .error (0, k)) → b = a
theorem moreQ_bind {a b : QnR} (h : MoreQ a b) (g g' : List Qn → Toks → QnR) (hg : ∀ o r, a = .ok (o, r) → MoreQ (g o r) (g' o r)) :
    MoreQ (match (generalizing := false) a with | .error e => .error e | .ok (o, r) => g o r) (match (generalizing := false) b with | .error e => .error e | .ok (o, r) => g' o r) := by
  intro hn
  cases a with
  | error e =>
    rw [h fun k e2 => hn k e2]
  | ok x =>
    obtain ⟨o, r⟩ := x
    rw [h fun k e2 => by cases e2]
    exact hg o r rfl hn
theorem moreQ_self (a : QnR) : MoreQ a a := fun _ => rfl
theorem more : ∀ f, (∀ d ts, MoreQ (oneQ f d ts) (oneQ (f + 1) d ts)) ∧ (∀ d o ts, MoreQ (andQ f d o ts) (andQ (f + 1) d o ts)) ∧ (∀ d ts, MoreQ (bothQ f d ts) (bothQ (f + 1) d ts)) ∧ (∀ d o ts, MoreQ (orQ f d o ts) (orQ (f + 1) d o ts)) ∧ (∀ d ts, MoreQ (sumQ f d ts) (sumQ (f + 1) d ts)) ∧ (∀ d ts, MoreQ (testQ f d ts) (testQ (f + 1) d ts))
  | 0 => by
    refine ⟨?_, ?_, ?_, ?_, ?_, ?_⟩ <;> intros <;> intro h <;> first | (unfold oneQ at h; exact absurd rfl (h 0)) | (unfold andQ at h; exact absurd rfl (h 0)) | (unfold bothQ at h; exact absurd rfl (h 0)) | (unfold orQ at h; exact absurd rfl (h 0)) | (unfold sumQ at h; exact absurd rfl (h 0)) | (unfold testQ at h; exact absurd rfl (h 0))
  | f + 1 => by
    obtain ⟨h1, h2, h3, h4, h5, h6⟩ := more f
    refine ⟨?_, ?_, ?_, ?_, ?_, ?_⟩
    · intro d ts
      rw [oneQ.eq_def (f + 1), oneQ.eq_def (f + 1 + 1)]
      simp only
      split
      · exact moreQ_self _
      · cases ts with
        | nil => exact moreQ_self _
        | cons x r =>
          simp only
          split
          · exact moreQ_self _
          · split
            · exact moreQ_self _
            · split
              · split
                · exact moreQ_self _
                · exact moreQ_bind (h1 _ _) _ _ fun _ _ _ => moreQ_self _
              · split
                · exact moreQ_bind (h6 _ _) _ _ fun _ _ _ => moreQ_self _
                · exact moreQ_self _
    · intro d o ts
      rw [andQ.eq_def (f + 1), andQ.eq_def (f + 1 + 1)]
      simp only
      split
      · exact moreQ_bind (h1 _ _) _ _ fun _ _ _ => h2 _ _ _
      · exact moreQ_self _
    · intro d ts
      rw [bothQ.eq_def (f + 1), bothQ.eq_def (f + 1 + 1)]
      exact moreQ_bind (h1 _ _) _ _ fun _ _ _ => h2 _ _ _
    · intro d o ts
      rw [orQ.eq_def (f + 1), orQ.eq_def (f + 1 + 1)]
      simp only
      split
      · exact moreQ_bind (h3 _ _) _ _ fun _ _ _ => h4 _ _ _
      · exact moreQ_self _
    · intro d ts
      rw [sumQ.eq_def (f + 1), sumQ.eq_def (f + 1 + 1)]
      exact moreQ_bind (h3 _ _) _ _ fun _ _ _ => h4 _ _ _
    · intro d ts
      rw [testQ.eq_def (f + 1), testQ.eq_def (f + 1 + 1)]
      refine moreQ_bind (h5 _ _) _ _ fun _ _ _ => ?_
      split
      · exact moreQ_bind (h5 _ _) _ _ fun _ _ _ => moreQ_self _
      · exact moreQ_self _
end Go.Proofs.Ytpcnfemjjlcjfaa
