/-
  Queries in plain terms: enough steps.
-/
import Derived.Test.YtfhjmhmgkdadhaaDoorWParN
/-! ParO -/
namespace Go.Proofs.YtfhjmhmgkdadhaaDoor
open Go.RowKit

/-- Not for want of steps; and at most so much is left. -/
def EnoughQ (n : Nat) (a : QnR) : Prop := (∀ k, a ≠ .error (0, k)) ∧ ∀ o r, a = .ok (o, r) → r.length ≤ n
theorem headT_some {ts : Toks} {t : List UInt8} (ht : t ≠ []) (h : headT ts = t) : 0 < ts.length := by
  cases ts with
  | nil => exact absurd h.symm ht
  | cons x r => simp
theorem enough : ∀ f, (∀ d ts, 6 * ts.length + 1 ≤ f → EnoughQ (ts.length - 1) (oneQ f d ts)) ∧ (∀ d o ts, 6 * ts.length + 1 ≤ f → EnoughQ ts.length (andQ f d o ts)) ∧ (∀ d ts, 6 * ts.length + 2 ≤ f → EnoughQ (ts.length - 1) (bothQ f d ts)) ∧ (∀ d o ts, 6 * ts.length + 2 ≤ f → EnoughQ ts.length (orQ f d o ts)) ∧ (∀ d ts, 6 * ts.length + 3 ≤ f → EnoughQ (ts.length - 1) (sumQ f d ts)) ∧ (∀ d ts, 6 * ts.length + 4 ≤ f → EnoughQ (ts.length - 1) (testQ f d ts))
  | 0 => by
    refine ⟨?_, ?_, ?_, ?_, ?_, ?_⟩ <;> intros <;> omega
  | f + 1 => by
    obtain ⟨h1, h2, h3, h4, h5, h6⟩ := enough f
    refine ⟨?_, ?_, ?_, ?_, ?_, ?_⟩
    · intro d ts hf
      unfold oneQ
      split
      · exact ⟨fun k => by simp, fun o r e => by cases e⟩
      · split
        · exact ⟨fun k => by simp, fun o r e => by cases e⟩
        · rename_i x r0
          simp only [List.length_cons] at hf ⊢
          split
          · exact ⟨fun k => by simp, fun o r e => by cases e; omega⟩
          · split
            · exact ⟨fun k => by simp, fun o r e => by cases e; omega⟩
            · split
              · split
                · exact ⟨fun k => by simp, fun o r e => by cases e; omega⟩
                · have h := h1 (d + 1) r0 (by omega)
                  split
                  · rename_i e0 he
                    rw [he] at h
                    exact ⟨fun k e => h.1 k (by rw [Except.error.inj e]), fun o r e => by cases e⟩
                  · rename_i o2 r2 he
                    have h' := h.2 _ _ he
                    exact ⟨fun k => by simp, fun o r e => by cases e; omega⟩
              · split
                · have h := h6 (d + 1) r0 (by omega)
                  split
                  · rename_i e0 he
                    rw [he] at h
                    exact ⟨fun k e => h.1 k (by rw [Except.error.inj e]), fun o r e => by cases e⟩
                  · rename_i o2 r2 he
                    have h' := h.2 _ _ he
                    split
                    · exact ⟨fun k => by simp, fun o r e => by cases e; rw [List.length_tail]; omega⟩
                    · exact ⟨fun k => by simp, fun o r e => by cases e⟩
                · exact ⟨fun k => by simp, fun o r e => by cases e⟩
    · intro d o ts hf
      unfold andQ
      split
      · rename_i hk
        have hp := headT_some (by simp) hk
        have h := h1 d ts.tail (by rw [List.length_tail]; omega)
        rw [List.length_tail] at h
        split
        · rename_i e0 he
          rw [he] at h
          exact ⟨fun k e => h.1 k (by rw [Except.error.inj e]), fun o r e => by cases e⟩
        · rename_i o2 r2 he
          have h' := h.2 _ _ he
          have h'' := h2 d (o ++ o2 ++ [⟨12, 0⟩]) r2 (by omega)
          exact ⟨h''.1, fun o' r e => by have := h''.2 _ _ e; omega⟩
      · exact ⟨fun k => by simp, fun o r e => by cases e; exact Nat.le_refl _⟩
    · intro d ts hf
      unfold bothQ
      have h := h1 d ts (by omega)
      split
      · rename_i e0 he
        rw [he] at h
        exact ⟨fun k e => h.1 k (by rw [Except.error.inj e]), fun o r e => by cases e⟩
      · rename_i o2 r2 he
        have h' := h.2 _ _ he
        have h'' := h2 d o2 r2 (by omega)
        exact ⟨h''.1, fun o' r e => by have := h''.2 _ _ e; omega⟩
    · intro d o ts hf
      unfold orQ
      split
      · rename_i hk
        have hp : 0 < ts.length := by
          rcases hk with hk | hk
          · exact headT_some (by simp) hk
          · exact headT_some (by simp) hk
        have h := h3 d ts.tail (by rw [List.length_tail]; omega)
        rw [List.length_tail] at h
        split
        · rename_i e0 he
          rw [he] at h
          exact ⟨fun k e => h.1 k (by rw [Except.error.inj e]), fun o r e => by cases e⟩
        · rename_i o2 r2 he
          have h' := h.2 _ _ he
          have h'' := h4 d (o ++ o2 ++ [⟨if headT ts = [124] then 13 else 14, 0⟩]) r2 (by omega)
          exact ⟨h''.1, fun o' r e => by have := h''.2 _ _ e; omega⟩
      · exact ⟨fun k => by simp, fun o r e => by cases e; exact Nat.le_refl _⟩
    · intro d ts hf
      unfold sumQ
      have h := h3 d ts (by omega)
      split
      · rename_i e0 he
        rw [he] at h
        exact ⟨fun k e => h.1 k (by rw [Except.error.inj e]), fun o r e => by cases e⟩
      · rename_i o2 r2 he
        have h' := h.2 _ _ he
        have h'' := h4 d o2 r2 (by omega)
        exact ⟨h''.1, fun o' r e => by have := h''.2 _ _ e; omega⟩
    · intro d ts hf
      unfold testQ
      have h := h5 d ts (by omega)
      split
      · rename_i e0 he
        rw [he] at h
        exact ⟨fun k e => h.1 k (by rw [Except.error.inj e]), fun o r e => by cases e⟩
      · rename_i o2 r2 he
        have h' := h.2 _ _ he
        split
        · have hs := h5 d r2.tail (by rw [List.length_tail]; omega)
          rw [List.length_tail] at hs
          split
          · rename_i e0 he2
            rw [he2] at hs
            exact ⟨fun k e => hs.1 k (by rw [Except.error.inj e]), fun o r e => by cases e⟩
          · rename_i o3 r3 he2
            have hs' := hs.2 _ _ he2
            exact ⟨fun k => by simp, fun o r e => by cases e; omega⟩
        · exact ⟨fun k => by simp, fun o r e => by cases e; omega⟩
/-- What is read in so many steps is read in more. -/
def MoreQ (a b : QnR) : Prop := (∀ k, a ≠ .error (0, k)) → b = a
theorem moreQ_bind {a b : QnR} (h : MoreQ a b) (g g' : List Qn → Toks → QnR) (hg : ∀ o r, a = .ok (o, r) → MoreQ (g o r) (g' o r)) :
    MoreQ (match (generalizing := false) a with | .error e => .error e | .ok (o, r) => g o r) (match (generalizing := false) b with | .error e => .error e | .ok (o, r) => g' o r) := by
  intro hn
  cases a with
  | error e =>
    rw [h fun k e2 => hn k e2]
  | ok x =>
    obtain ⟨o, r⟩ := x
    rw [h fun k e2 => by cases e2]
    exact hg o r rfl hn
theorem moreQ_self (a : QnR) : MoreQ a a := fun _ => rfl
theorem more : ∀ f, (∀ d ts, MoreQ (oneQ f d ts) (oneQ (f + 1) d ts)) ∧ (∀ d o ts, MoreQ (andQ f d o ts) (andQ (f + 1) d o ts)) ∧ (∀ d ts, MoreQ (bothQ f d ts) (bothQ (f + 1) d ts)) ∧ (∀ d o ts, MoreQ (orQ f d o ts) (orQ (f + 1) d o ts)) ∧ (∀ d ts, MoreQ (sumQ f d ts) (sumQ (f + 1) d ts)) ∧ (∀ d ts, MoreQ (testQ f d ts) (testQ (f + 1) d ts))
  | 0 => by
    refine ⟨?_, ?_, ?_, ?_, ?_, ?_⟩ <;> intros <;> intro h <;> first | (unfold oneQ at h; exact absurd rfl (h 0)) | (unfold andQ at h; exact absurd rfl (h 0)) | (unfold bothQ at h; exact absurd rfl (h 0)) | (unfold orQ at h; exact absurd rfl (h 0)) | (unfold sumQ at h; exact absurd rfl (h 0)) | (unfold testQ at h; exact absurd rfl (h 0))
  | f + 1 => by
    obtain ⟨h1, h2, h3, h4, h5, h6⟩ := more f
    refine ⟨?_, ?_, ?_, ?_, ?_, ?_⟩
    · intro d ts
      rw [oneQ.eq_def (f + 1), oneQ.eq_def (f + 1 + 1)]
      simp only
      split
      · exact moreQ_self _
      · cases ts with
        | nil => exact moreQ_self _
        | cons x r =>
          simp only
          split
          · exact moreQ_self _
          · split
            · exact moreQ_self _
            · split
              · split
                · exact moreQ_self _
                · exact moreQ_bind (h1 _ _) _ _ fun _ _ _ => moreQ_self _
              · split
                · exact moreQ_bind (h6 _ _) _ _ fun _ _ _ => moreQ_self _
                · exact moreQ_self _
    · intro d o ts
      rw [andQ.eq_def (f + 1), andQ.eq_def (f + 1 + 1)]
      simp only
      split
      · exact moreQ_bind (h1 _ _) _ _ fun _ _ _ => h2 _ _ _
      · exact moreQ_self _
    · intro d ts
      rw [bothQ.eq_def (f + 1), bothQ.eq_def (f + 1 + 1)]
      exact moreQ_bind (h1 _ _) _ _ fun _ _ _ => h2 _ _ _
    · intro d o ts
      rw [orQ.eq_def (f + 1), orQ.eq_def (f + 1 + 1)]
      simp only
      split
      · exact moreQ_bind (h3 _ _) _ _ fun _ _ _ => h4 _ _ _
      · exact moreQ_self _
    · intro d ts
      rw [sumQ.eq_def (f + 1), sumQ.eq_def (f + 1 + 1)]
      exact moreQ_bind (h3 _ _) _ _ fun _ _ _ => h4 _ _ _
    · intro d ts
      rw [testQ.eq_def (f + 1), testQ.eq_def (f + 1 + 1)]
      refine moreQ_bind (h5 _ _) _ _ fun _ _ _ => ?_
      split
      · exact moreQ_bind (h5 _ _) _ _ fun _ _ _ => moreQ_self _
      · exact moreQ_self _
end Go.Proofs.YtfhjmhmgkdadhaaDoor
