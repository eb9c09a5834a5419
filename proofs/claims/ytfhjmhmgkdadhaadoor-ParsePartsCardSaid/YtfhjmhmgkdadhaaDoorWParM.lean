/-
  Queries in plain terms: their nodes.
-/
import Derived.Test.YtfhjmhmgkdadhaaDoorWLexM
/-! ParM -/
namespace Go.Proofs.YtfhjmhmgkdadhaaDoor
open Go.RowKit

/-- A node. -/
structure Qn where
  kind : Int
  n : Int
deriving DecidableEq
/-- What is left to read: pieces and their places. -/
abbrev Toks := List (Pc × Nat)
/-- What is read: the nodes, and what is left; or why not, and where. -/
abbrev QnR := Except (Nat × Nat) (List Qn × Toks)
def headT (ts : Toks) : List UInt8 := (ts.head?.map fun x => x.1.text).getD []
def headAt (ts : Toks) : Nat := (ts.head?.map fun x => x.2).getD 0
/-- The kind of a word's node. -/
def wordQ (t : List UInt8) : Nat := if t = [97, 108, 108] then 1 else if t = [108, 105, 118, 101] then 2 else if t = [109, 105, 110, 101] then 3 else if t = [117, 112] then 6 else if t = [100, 111, 119, 110] then 7 else if t = [116, 97, 103, 115] then 8 else if t = [111, 119, 110, 101, 114, 115] then 9 else if t = [99, 111, 117, 110, 116] then 10 else if t = [115, 111, 109, 101] then 11 else 0
mutual
def oneQ : Nat → Nat → Toks → QnR
  | 0, _, _ => .error (0, 0)
  | f + 1, d, ts => if 8 < d then .error (17, headAt ts) else match ts with
    | [] => .error (3, 0)
    | x :: r => if x.1.kind = 2 then .ok ([⟨4, x.1.n⟩], r) else if x.1.kind = 3 then .ok ([⟨5, x.1.n⟩], r) else if x.1.kind = 1 then
        (if wordQ x.1.text < 4 then .ok ([⟨wordQ x.1.text, 0⟩], r) else match oneQ f (d + 1) r with
          | .error e => .error e
          | .ok (o, r2) => .ok (o ++ [⟨wordQ x.1.text, 0⟩], r2))
      else if x.1.text = [40] then match testQ f (d + 1) r with
        | .error e => .error e
        | .ok (o, r2) => if headT r2 = [41] then .ok (o, r2.tail) else .error (3, headAt r2)
      else .error (3, x.2)
def andQ : Nat → Nat → List Qn → Toks → QnR
  | 0, _, _, _ => .error (0, 0)
  | f + 1, d, o, ts => if headT ts = [38] then match oneQ f d ts.tail with
      | .error e => .error e
      | .ok (o2, r2) => andQ f d (o ++ o2 ++ [⟨12, 0⟩]) r2
    else .ok (o, ts)
def bothQ : Nat → Nat → Toks → QnR
  | 0, _, _ => .error (0, 0)
  | f + 1, d, ts => match oneQ f d ts with
    | .error e => .error e
    | .ok (o, r) => andQ f d o r
def orQ : Nat → Nat → List Qn → Toks → QnR
  | 0, _, _, _ => .error (0, 0)
  | f + 1, d, o, ts => if headT ts = [124] ∨ headT ts = [45] then match bothQ f d ts.tail with
      | .error e => .error e
      | .ok (o2, r2) => orQ f d (o ++ o2 ++ [⟨if headT ts = [124] then 13 else 14, 0⟩]) r2
    else .ok (o, ts)
def sumQ : Nat → Nat → Toks → QnR
  | 0, _, _ => .error (0, 0)
  | f + 1, d, ts => match bothQ f d ts with
    | .error e => .error e
    | .ok (o, r) => orQ f d o r
def testQ : Nat → Nat → Toks → QnR
  | 0, _, _ => .error (0, 0)
  | f + 1, d, ts => match sumQ f d ts with
    | .error e => .error e
    | .ok (o, r) => if headT r = [60, 61] then match sumQ f d r.tail with
        | .error e => .error e
        | .ok (o2, r2) => .ok (o ++ o2 ++ [⟨15, 0⟩], r2)
      else .ok (o, r)
end
/-- Deeper, it is the same, or too deep. -/
def SameOr (a b : QnR) : Prop := ∀ x, a = .ok x → b = .ok x ∨ ∃ k, b = .error (17, k)
theorem deeper (n : Nat) : ∀ f, (∀ d ts, SameOr (oneQ f d ts) (oneQ f (d + n) ts)) ∧ (∀ d o ts, SameOr (andQ f d o ts) (andQ f (d + n) o ts)) ∧ (∀ d ts, SameOr (bothQ f d ts) (bothQ f (d + n) ts)) ∧ (∀ d o ts, SameOr (orQ f d o ts) (orQ f (d + n) o ts)) ∧ (∀ d ts, SameOr (sumQ f d ts) (sumQ f (d + n) ts)) ∧ (∀ d ts, SameOr (testQ f d ts) (testQ f (d + n) ts))
  | 0 => by
    refine ⟨?_, ?_, ?_, ?_, ?_, ?_⟩ <;> intros <;> intro x h <;> first | (unfold oneQ at h; cases h) | (unfold andQ at h; cases h) | (unfold bothQ at h; cases h) | (unfold orQ at h; cases h) | (unfold sumQ at h; cases h) | (unfold testQ at h; cases h)
  | f + 1 => by
    obtain ⟨h1, h2, h3, h4, h5, h6⟩ := deeper n f
    refine ⟨?_, ?_, ?_, ?_, ?_, ?_⟩
    · intro d ts x h
      unfold oneQ at h ⊢
      by_cases hd : 8 < d
      · rw [if_pos hd] at h; cases h
      · rw [if_neg hd] at h
        by_cases hd2 : 8 < d + n
        · rw [if_pos hd2]; exact .inr ⟨_, rfl⟩
        · rw [if_neg hd2, show d + n + 1 = d + 1 + n by omega]
          cases ts with
          | nil => cases h
          | cons y r =>
            simp only at h ⊢
            by_cases k2 : y.1.kind = 2
            · rw [if_pos k2] at h ⊢; exact .inl h
            · rw [if_neg k2] at h ⊢
              by_cases k3 : y.1.kind = 3
              · rw [if_pos k3] at h ⊢; exact .inl h
              · rw [if_neg k3] at h ⊢
                by_cases k1 : y.1.kind = 1
                · rw [if_pos k1] at h ⊢
                  by_cases k4 : wordQ y.1.text < 4
                  · rw [if_pos k4] at h ⊢; exact .inl h
                  · rw [if_neg k4] at h ⊢
                    split at h
                    · cases h
                    · rename_i e
                      rcases h1 _ _ _ e with e2 | ⟨k, e2⟩
                      · rw [e2]; exact .inl h
                      · rw [e2]; exact .inr ⟨k, rfl⟩
                · rw [if_neg k1] at h ⊢
                  by_cases k5 : y.1.text = [40]
                  · rw [if_pos k5] at h ⊢
                    split at h
                    · cases h
                    · rename_i e
                      rcases h6 _ _ _ e with e2 | ⟨k, e2⟩
                      · rw [e2]; exact .inl h
                      · rw [e2]; exact .inr ⟨k, rfl⟩
                  · rw [if_neg k5] at h; cases h
    · intro d o ts x h
      unfold andQ at h ⊢
      by_cases hk : headT ts = [38]
      · rw [if_pos hk] at h ⊢
        split at h
        · cases h
        · rename_i e
          rcases h1 _ _ _ e with e2 | ⟨k, e2⟩
          · rw [e2]; exact h2 _ _ _ _ h
          · rw [e2]; exact .inr ⟨k, rfl⟩
      · rw [if_neg hk] at h ⊢; exact .inl h
    · intro d ts x h
      unfold bothQ at h ⊢
      split at h
      · cases h
      · rename_i e
        rcases h1 _ _ _ e with e2 | ⟨k, e2⟩
        · rw [e2]; exact h2 _ _ _ _ h
        · rw [e2]; exact .inr ⟨k, rfl⟩
    · intro d o ts x h
      unfold orQ at h ⊢
      by_cases hk : headT ts = [124] ∨ headT ts = [45]
      · rw [if_pos hk] at h ⊢
        split at h
        · cases h
        · rename_i e
          rcases h3 _ _ _ e with e2 | ⟨k, e2⟩
          · rw [e2]; exact h4 _ _ _ _ h
          · rw [e2]; exact .inr ⟨k, rfl⟩
      · rw [if_neg hk] at h ⊢; exact .inl h
    · intro d ts x h
      unfold sumQ at h ⊢
      split at h
      · cases h
      · rename_i e
        rcases h3 _ _ _ e with e2 | ⟨k, e2⟩
        · rw [e2]; exact h4 _ _ _ _ h
        · rw [e2]; exact .inr ⟨k, rfl⟩
    · intro d ts x h
      unfold testQ at h ⊢
      split at h
      · cases h
      · rename_i e
        rcases h5 _ _ _ e with e2 | ⟨k, e2⟩
        · rw [e2]
          simp only
          rename_i o r
          by_cases hk : headT r = [60, 61]
          · rw [if_pos hk] at h ⊢
            split at h
            · cases h
            · rename_i e3
              rcases h5 _ _ _ e3 with e4 | ⟨k, e4⟩
              · rw [e4]; exact .inl h
              · rw [e4]; exact .inr ⟨k, rfl⟩
          · rw [if_neg hk] at h ⊢; exact .inl h
        · rw [e2]; exact .inr ⟨k, rfl⟩
theorem headT_cons (x : Pc × Nat) (r : Toks) : headT (x :: r) = x.1.text := rfl
/-- The end moved on, and another piece ahead of it. -/
structure Swp (E Z : Toks) (sh : Pc × Nat → Pc × Nat) : Prop where
  same : ∀ x, (sh x).1 = x.1
  end_ : ∃ k, E = [(endPc, k)]
  shut : headT Z = [41]
def SwpR (E Z : Toks) (sh : Pc × Nat → Pc × Nat) (a b : QnR) : Prop := ∀ o r, a = .ok (o, r) → ∃ rs, r = rs ++ E ∧ b = .ok (o, rs.map sh ++ Z)
theorem Swp.none {E Z : Toks} {sh : Pc × Nat → Pc × Nat} (h : Swp E Z sh) : headT E = [] := by
  obtain ⟨k, rfl⟩ := h.end_
  rfl
/-- What stands ahead is the same, but for the end alone. -/
theorem Swp.head {E Z : Toks} {sh : Pc × Nat → Pc × Nat} (h : Swp E Z sh) {t : List UInt8} (ht : t ≠ []) (h41 : t ≠ [41]) (ts : Toks) : headT (ts.map sh ++ Z) = t ↔ headT (ts ++ E) = t := by
  cases ts with
  | nil =>
    rw [List.map_nil, List.nil_append, List.nil_append, h.none, h.shut]
    exact ⟨fun e => absurd e.symm h41, fun e => absurd e.symm ht⟩
  | cons x r =>
    rw [List.map_cons, List.cons_append, List.cons_append, headT_cons, headT_cons, h.same]
theorem Swp.tail {E Z : Toks} {sh : Pc × Nat → Pc × Nat} (h : Swp E Z sh) {t : List UInt8} (ht : t ≠ []) {ts : Toks} (hk : headT (ts ++ E) = t) : ∃ x r, ts = x :: r ∧ x.1.text = t := by
  cases ts with
  | nil =>
    rw [List.nil_append, h.none] at hk
    exact absurd hk.symm ht
  | cons x r => exact ⟨x, r, rfl, hk⟩
theorem swapped {E Z : Toks} {sh : Pc × Nat → Pc × Nat} (w : Swp E Z sh) : ∀ f, (∀ d ts, SwpR E Z sh (oneQ f d (ts ++ E)) (oneQ f d (ts.map sh ++ Z))) ∧ (∀ d o ts, SwpR E Z sh (andQ f d o (ts ++ E)) (andQ f d o (ts.map sh ++ Z))) ∧ (∀ d ts, SwpR E Z sh (bothQ f d (ts ++ E)) (bothQ f d (ts.map sh ++ Z))) ∧ (∀ d o ts, SwpR E Z sh (orQ f d o (ts ++ E)) (orQ f d o (ts.map sh ++ Z))) ∧ (∀ d ts, SwpR E Z sh (sumQ f d (ts ++ E)) (sumQ f d (ts.map sh ++ Z))) ∧ (∀ d ts, SwpR E Z sh (testQ f d (ts ++ E)) (testQ f d (ts.map sh ++ Z)))
  | 0 => by
    refine ⟨?_, ?_, ?_, ?_, ?_, ?_⟩ <;> intros <;> intro o r h <;> first | (unfold oneQ at h; cases h) | (unfold andQ at h; cases h) | (unfold bothQ at h; cases h) | (unfold orQ at h; cases h) | (unfold sumQ at h; cases h) | (unfold testQ at h; cases h)
  | f + 1 => by
    obtain ⟨h1, h2, h3, h4, h5, h6⟩ := swapped w f
    refine ⟨?_, ?_, ?_, ?_, ?_, ?_⟩
    · intro d ts o r h
      unfold oneQ at h ⊢
      by_cases hd : 8 < d
      · rw [if_pos hd] at h; cases h
      · rw [if_neg hd] at h ⊢
        cases ts with
        | nil =>
          obtain ⟨k, e⟩ := w.end_
          subst e
          cases h
        | cons y r0 =>
          simp only [List.cons_append, List.map_cons, w.same] at h ⊢
          by_cases k2 : y.1.kind = 2
          · rw [if_pos k2] at h ⊢
            cases h
            exact ⟨r0, rfl, rfl⟩
          · rw [if_neg k2] at h ⊢
            by_cases k3 : y.1.kind = 3
            · rw [if_pos k3] at h ⊢
              cases h
              exact ⟨r0, rfl, rfl⟩
            · rw [if_neg k3] at h ⊢
              by_cases k1 : y.1.kind = 1
              · rw [if_pos k1] at h ⊢
                by_cases k4 : wordQ y.1.text < 4
                · rw [if_pos k4] at h ⊢
                  cases h
                  exact ⟨r0, rfl, rfl⟩
                · rw [if_neg k4] at h ⊢
                  split at h
                  · cases h
                  · rename_i e
                    obtain ⟨rs, rfl, e2⟩ := h1 _ _ _ _ e
                    rw [e2]
                    cases h
                    exact ⟨rs, rfl, rfl⟩
              · rw [if_neg k1] at h ⊢
                by_cases k5 : y.1.text = [40]
                · rw [if_pos k5] at h ⊢
                  split at h
                  · cases h
                  · rename_i e
                    obtain ⟨rs, rfl, e2⟩ := h6 _ _ _ _ e
                    rw [e2]
                    simp only
                    by_cases k6 : headT (rs ++ E) = [41]
                    · rw [if_pos k6] at h
                      obtain ⟨x, r, rfl, hx⟩ := w.tail (by simp) k6
                      cases h
                      rw [if_pos (by rw [List.map_cons, List.cons_append, headT_cons, w.same]; exact hx)]
                      exact ⟨r, rfl, rfl⟩
                    · rw [if_neg k6] at h; cases h
                · rw [if_neg k5] at h; cases h
    · intro d o ts o' r h
      unfold andQ at h ⊢
      by_cases hk : headT (ts ++ E) = [38]
      · rw [if_pos hk] at h
        rw [if_pos ((w.head (by simp) (by simp) ts).2 hk)]
        obtain ⟨x, r0, rfl, -⟩ := w.tail (by simp) hk
        simp only [List.cons_append, List.map_cons, List.tail_cons] at h ⊢
        split at h
        · cases h
        · rename_i e
          obtain ⟨rs, rfl, e2⟩ := h1 _ _ _ _ e
          rw [e2]
          exact h2 _ _ _ _ _ h
      · rw [if_neg hk] at h
        rw [if_neg fun e => hk ((w.head (by simp) (by simp) ts).1 e)]
        cases h
        exact ⟨ts, rfl, rfl⟩
    · intro d ts o r h
      unfold bothQ at h ⊢
      split at h
      · cases h
      · rename_i e
        obtain ⟨rs, rfl, e2⟩ := h1 _ _ _ _ e
        rw [e2]
        exact h2 _ _ _ _ _ h
    · intro d o ts o' r h
      unfold orQ at h ⊢
      have e1 := w.head (t := [124]) (by simp) (by simp) ts
      have e2 := w.head (t := [45]) (by simp) (by simp) ts
      simp only [e1, e2]
      by_cases hk : headT (ts ++ E) = [124] ∨ headT (ts ++ E) = [45]
      · rw [if_pos hk] at h ⊢
        obtain ⟨x, r0, rfl, -⟩ : ∃ x r, ts = x :: r ∧ True := by
          rcases hk with hk | hk
          · obtain ⟨x, r, e, -⟩ := w.tail (by simp) hk
            exact ⟨x, r, e, trivial⟩
          · obtain ⟨x, r, e, -⟩ := w.tail (by simp) hk
            exact ⟨x, r, e, trivial⟩
        simp only [List.cons_append, List.map_cons, List.tail_cons] at h ⊢
        split at h
        · cases h
        · rename_i e
          obtain ⟨rs, rfl, e3⟩ := h3 _ _ _ _ e
          rw [e3]
          exact h4 _ _ _ _ _ h
      · rw [if_neg hk] at h ⊢
        cases h
        exact ⟨ts, rfl, rfl⟩
    · intro d ts o r h
      unfold sumQ at h ⊢
      split at h
      · cases h
      · rename_i e
        obtain ⟨rs, rfl, e2⟩ := h3 _ _ _ _ e
        rw [e2]
        exact h4 _ _ _ _ _ h
    · intro d ts o r h
      unfold testQ at h ⊢
      split at h
      · cases h
      · rename_i e
        obtain ⟨rs, rfl, e2⟩ := h5 _ _ _ _ e
        rw [e2]
        simp only
        by_cases hk : headT (rs ++ E) = [60, 61]
        · rw [if_pos hk] at h
          rw [if_pos ((w.head (by simp) (by simp) rs).2 hk)]
          obtain ⟨x, r0, rfl, -⟩ := w.tail (by simp) hk
          simp only [List.cons_append, List.map_cons, List.tail_cons] at h ⊢
          split at h
          · cases h
          · rename_i e3
            obtain ⟨rs2, rfl, e4⟩ := h5 _ _ _ _ e3
            rw [e4]
            cases h
            exact ⟨rs2, rfl, rfl⟩
        · rw [if_neg hk] at h
          rw [if_neg fun e => hk ((w.head (by simp) (by simp) rs).1 e)]
          cases h
          exact ⟨rs, rfl, rfl⟩
end Go.Proofs.YtfhjmhmgkdadhaaDoor
