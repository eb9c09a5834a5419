/-
  Queries in brackets.
-/
import Derived.Test.YtfhjmhmgkdadhaaDoorWParO
import Derived.Test.YtfhjmhmgkdadhaaDoorWLexC
/-! ParP -/
namespace Go.Proofs.YtfhjmhmgkdadhaaDoor
open Go.RowKit

theorem takeWhile_shut (p : UInt8 → Bool) (h : p 41 = false) : ∀ l : List UInt8, (l ++ [41]).takeWhile p = l.takeWhile p
  | [] => by rw [List.nil_append, List.takeWhile_cons, h]; rfl
  | c :: r => by
    rw [List.cons_append, List.takeWhile_cons, List.takeWhile_cons, takeWhile_shut p h r]
theorem cut_shut (c : UInt8) (r : List UInt8) : cutN (c :: r ++ [41]) = cutN (c :: r) := by
  unfold cutN
  rw [takeWhile_shut smallB (by decide)]
  split
  · rfl
  · cases r with
    | nil =>
      by_cases hc : c = 60
      · subst hc; rfl
      · have e1 : ∀ z, (match c :: z with | 60 :: 61 :: _ => 2 | _ => 1 : Nat) = 1 := by
          intro z
          split
          · rename_i heq
            exact absurd (List.cons.inj heq).1 hc
          · rfl
        rw [List.cons_append, List.nil_append]
        exact (e1 [41]).trans (e1 []).symm
    | cons b r2 =>
      simp only [List.cons_append]
      by_cases hc : c = 60
      · subst hc
        by_cases hb : b = 61
        · subst hb; rfl
        · split
          · rename_i heq
            exact absurd (List.cons.inj (List.cons.inj heq).2).1 hb
          · split
            · rename_i heq
              exact absurd (List.cons.inj (List.cons.inj heq).2).1 hb
            · rfl
      · split
        · rename_i heq
          exact absurd (List.cons.inj heq).1 hc
        · split
          · rename_i heq
            exact absurd (List.cons.inj heq).1 hc
          · rfl
def shutPc : Pc := ⟨4, [41], 0⟩
def openPc : Pc := ⟨4, [40], 0⟩
theorem find_shut : findPc [41] = some shutPc := by decide +kernel
theorem find_open : findPc [40] = some openPc := by decide +kernel
/-- A closing bracket behind it: one piece more. -/
theorem pcsF_shut : ∀ (f pl : Nat) (s : List UInt8) (L : List (Pc × Nat)), s.length < f → pcsF f pl s = .ok L → ∃ L0 k, L = L0 ++ [(endPc, k)] ∧ pcsF (f + 1) pl (s ++ [41]) = .ok (L0 ++ [(shutPc, k), (endPc, k + 1)])
  | 0, _, _, _, h, _ => absurd h (by omega)
  | f + 1, pl, [], L, _, h => by
    unfold pcsF at h
    cases h
    refine ⟨[], pl, rfl, ?_⟩
    rw [List.nil_append]
    unfold pcsF
    rw [if_neg (by decide), show cutN [41] = 1 from rfl, show List.take 1 [(41 : UInt8)] = [41] from rfl, find_shut]
    rfl
  | f + 1, pl, c :: r, L, hf, h => by
    simp only [List.length_cons] at hf
    unfold pcsF at h
    split at h
    · rename_i hc
      obtain ⟨L0, k, rfl, e⟩ := pcsF_shut f (pl + 1) r L (by omega) h
      refine ⟨L0, k, rfl, ?_⟩
      rw [List.cons_append]
      unfold pcsF
      rw [if_pos hc]
      exact e
    · rename_i hc
      split at h
      · cases h
      · rename_i x hx
        have hc1 := cut_pos (c :: r)
        have hc2 := cut_le c r
        cases e : pcsF f (pl + cutN (c :: r)) ((c :: r).drop (cutN (c :: r))) with
        | error k => rw [e] at h; cases h
        | ok M =>
          rw [e] at h
          cases h
          obtain ⟨L0, k, rfl, e2⟩ := pcsF_shut f _ _ M (by rw [List.length_drop]; simp only [List.length_cons]; omega) e
          refine ⟨(x, pl) :: L0, k, rfl, ?_⟩
          have hct := cut_shut c r
          rw [List.cons_append] at hct ⊢
          unfold pcsF
          rw [if_neg hc, hct, ← List.cons_append, List.take_append_of_le_length (by simp only [List.length_cons]; omega), List.drop_append_of_le_length (by simp only [List.length_cons]; omega), hx]
          simp only [e2]
          rfl
/-- Further on, the same pieces. -/
theorem pcsF_on (n : Nat) : ∀ (f pl : Nat) (s : List UInt8) (L : List (Pc × Nat)), pcsF f pl s = .ok L → pcsF f (pl + n) s = .ok (L.map fun x => (x.1, x.2 + n))
  | 0, _, _, _, h => by
    unfold pcsF at h ⊢
    cases h
    rfl
  | f + 1, pl, [], L, h => by
    unfold pcsF at h ⊢
    cases h
    rfl
  | f + 1, pl, c :: r, L, h => by
    unfold pcsF at h ⊢
    by_cases hc : c = 32
    · rw [if_pos hc] at h ⊢
      rw [show pl + n + 1 = pl + 1 + n by omega]
      exact pcsF_on n f (pl + 1) r L h
    · rw [if_neg hc] at h ⊢
      split at h
      · cases h
      · rename_i x hx
        cases e : pcsF f (pl + cutN (c :: r)) ((c :: r).drop (cutN (c :: r))) with
        | error k => rw [e] at h; cases h
        | ok M =>
          rw [e] at h
          cases h
          have := pcsF_on n f _ _ M e
          rw [show pl + n + cutN (c :: r) = pl + cutN (c :: r) + n by omega, this]
          rfl
/-- In brackets: the same pieces, one further on, between the brackets. -/
theorem pcsL_brackets {s : List UInt8} {L : List (Pc × Nat)} (h : pcsL s = .ok L) : ∃ L0 k, L = L0 ++ [(endPc, k)] ∧ pcsL (40 :: (s ++ [41])) = .ok ((openPc, 0) :: (L0.map fun x => (x.1, x.2 + 1)) ++ [(shutPc, k + 1), (endPc, k + 2)]) := by
  obtain ⟨L0, k, rfl, e⟩ := pcsF_shut (s.length + 1) 0 s L (Nat.lt_succ_self _) h
  refine ⟨L0, k, rfl, ?_⟩
  have e2 := pcsF_on 1 _ _ _ _ e
  rw [Nat.zero_add] at e2
  unfold pcsL
  have ec : cutN (40 :: (s ++ [41])) = 1 := by
    unfold cutN
    rw [List.takeWhile_cons, show smallB 40 = false by decide]
    rfl
  unfold pcsF
  rw [if_neg (by decide), ec, show List.take 1 (40 :: (s ++ [41])) = [40] from rfl, find_open, show (40 :: (s ++ [41])).length = s.length + 1 + 1 by simp, show List.drop 1 (40 :: (s ++ [41])) = s ++ [41] from rfl, Nat.zero_add]
  simp only [e2]
  simp [Except.map]
end Go.Proofs.YtfhjmhmgkdadhaaDoor
