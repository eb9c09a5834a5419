/-
  Queries: what is answered; in brackets, and behind a word.
-/
import Derived.Test.YtfhjmhmgkdadhaaDoorWParP
/-! ParQ -/
namespace Go.Proofs.YtfhjmhmgkdadhaaDoor
open Go.RowKit

/-- What is left is the end of what was there. -/
def RestQ (ts : Toks) (a : QnR) : Prop := ∀ o r, a = .ok (o, r) → r <:+ ts
theorem rest_all : ∀ f, (∀ d ts, RestQ ts (oneQ f d ts)) ∧ (∀ d o ts, RestQ ts (andQ f d o ts)) ∧ (∀ d ts, RestQ ts (bothQ f d ts)) ∧ (∀ d o ts, RestQ ts (orQ f d o ts)) ∧ (∀ d ts, RestQ ts (sumQ f d ts)) ∧ (∀ d ts, RestQ ts (testQ f d ts))
  | 0 => by
    refine ⟨?_, ?_, ?_, ?_, ?_, ?_⟩ <;> intros <;> intro o r h <;> first | (unfold oneQ at h; cases h) | (unfold andQ at h; cases h) | (unfold bothQ at h; cases h) | (unfold orQ at h; cases h) | (unfold sumQ at h; cases h) | (unfold testQ at h; cases h)
  | f + 1 => by
    obtain ⟨h1, h2, h3, h4, h5, h6⟩ := rest_all f
    refine ⟨?_, ?_, ?_, ?_, ?_, ?_⟩
    · intro d ts o r h
      unfold oneQ at h
      split at h
      · cases h
      · split at h
        · cases h
        · rename_i x r0
          have hr := List.suffix_cons x r0
          split at h
          · cases h; exact hr
          · split at h
            · cases h; exact hr
            · split at h
              · split at h
                · cases h; exact hr
                · split at h
                  · cases h
                  · rename_i e
                    have g := h1 _ _ _ _ e
                    cases h; exact g.trans hr
              · split at h
                · split at h
                  · cases h
                  · rename_i e
                    have g := h6 _ _ _ _ e
                    split at h
                    · cases h; exact ((List.tail_suffix _).trans g).trans hr
                    · cases h
                · cases h
    · intro d o ts o' r h
      unfold andQ at h
      split at h
      · split at h
        · cases h
        · rename_i e
          exact (h2 _ _ _ _ _ h).trans ((h1 _ _ _ _ e).trans (List.tail_suffix _))
      · cases h; exact List.suffix_refl _
    · intro d ts o r h
      unfold bothQ at h
      split at h
      · cases h
      · rename_i e
        exact (h2 _ _ _ _ _ h).trans (h1 _ _ _ _ e)
    · intro d o ts o' r h
      unfold orQ at h
      split at h
      · split at h
        · cases h
        · rename_i e
          exact (h4 _ _ _ _ _ h).trans ((h3 _ _ _ _ e).trans (List.tail_suffix _))
      · cases h; exact List.suffix_refl _
    · intro d ts o r h
      unfold sumQ at h
      split at h
      · cases h
      · rename_i e
        exact (h4 _ _ _ _ _ h).trans (h3 _ _ _ _ e)
    · intro d ts o r h
      unfold testQ at h
      split at h
      · cases h
      · rename_i e
        have g := h5 _ _ _ _ e
        split at h
        · split at h
          · cases h
          · rename_i e3
            have g3 := h5 _ _ _ _ e3
            cases h; exact (g3.trans (List.tail_suffix _)).trans g
        · cases h; exact g
theorem more_test {f g : Nat} (h : f ≤ g) (d : Nat) (ts : Toks) : MoreQ (testQ f d ts) (testQ g d ts) := by
  obtain ⟨k, rfl⟩ := Nat.exists_eq_add_of_le h
  induction k with
  | zero => exact moreQ_self _
  | succ k ih =>
    intro hn
    have e := ih (by omega) hn
    have e2 := (more (f + k)).2.2.2.2.2 d ts (by rw [e]; exact hn)
    rw [show f + (k + 1) = f + k + 1 by omega, e2, e]
/-- What a query answers: its nodes, the place of the fault, the fault. -/
def queryT (L : Toks) : List Qn × Nat × Nat := match testQ (6 * L.length + 4) 0 L with
  | .error (c, k) => ([], k, c)
  | .ok (o, r) => if (r.head?.map (·.1.kind)).getD 5 ≠ 5 then ([], headAt r, 3) else if 24 < o.length then ([], 0, 5) else (o, 0, 0)
def queryQ (s : List UInt8) : List Qn × Nat × Nat := if (pcsO s).2.2 = 0 then queryT (pcsO s).1 else ([], (pcsO s).2)
theorem queryT_ok {L : Toks} {o : List Qn} {a : Nat} (h : queryT L = (o, a, 0)) : a = 0 ∧ o.length ≤ 24 ∧ ∃ r, testQ (6 * L.length + 4) 0 L = .ok (o, r) ∧ (r.head?.map (·.1.kind)).getD 5 = 5 := by
  have hne := ((enough (6 * L.length + 4)).2.2.2.2.2 0 L (Nat.le_refl _)).1
  unfold queryT at h
  split at h
  · rename_i c k e
    simp only [Prod.mk.injEq] at h
    obtain ⟨-, -, rfl⟩ := h
    exact absurd e (hne k)
  · rename_i o' r e
    split at h
    · simp at h
    · rename_i hk
      split at h
      · simp at h
      · rename_i h24
        simp only [Prod.mk.injEq] at h
        obtain ⟨rfl, rfl, -⟩ := h
        exact ⟨rfl, by omega, r, e, Decidable.of_not_not hk⟩
theorem queryT_is {L : Toks} {o : List Qn} {r : Toks} {f : Nat} (hf : f ≤ 6 * L.length + 4) (h : testQ f 0 L = .ok (o, r)) (hr : (r.head?.map (·.1.kind)).getD 5 = 5) : queryT L = if 24 < o.length then ([], 0, 5) else (o, 0, 0) := by
  have e := more_test hf 0 L (fun k => by rw [h]; intro e; cases e)
  unfold queryT
  rw [e, h]
  simp only
  rw [if_neg (fun hn => hn hr)]
theorem queryT_deep {L : Toks} {k : Nat} {f : Nat} (hf : f ≤ 6 * L.length + 4) (h : testQ f 0 L = .error (17, k)) : queryT L = ([], k, 17) := by
  have e := more_test hf 0 L (fun k => by rw [h]; intro e; cases e)
  unfold queryT
  rw [e, h]
/-- One expression alone, and the end. -/
theorem test_one {f : Nat} {T : Toks} {o : List Qn} {k : Nat} (h : oneQ (f + 1) 0 T = .ok (o, [(endPc, k)])) : testQ (f + 1 + 3) 0 T = .ok (o, [(endPc, k)]) := by
  have he : headT [(endPc, k)] = [] := rfl
  unfold testQ sumQ bothQ
  rw [h]
  simp only
  unfold andQ
  rw [if_neg (by rw [he]; decide)]
  simp only
  unfold orQ
  rw [if_neg (by rw [he]; decide)]
  simp only
  rw [if_neg (by rw [he]; decide)]
theorem test_err {f : Nat} {T : Toks} {e : Nat × Nat} (h : oneQ f 0 T = .error e) : testQ (f + 3) 0 T = .error e := by
  unfold testQ sumQ bothQ
  rw [h]
theorem brackets_one {f : Nat} {T : Toks} {o : List Qn} {a k d : Nat} (hd : d ≤ 8) (h : testQ f (d + 1) T = .ok (o, [(shutPc, k), (endPc, k + 1)])) : oneQ (f + 1) d ((openPc, a) :: T) = .ok (o, [(endPc, k + 1)]) := by
  unfold oneQ
  rw [if_neg (by omega)]
  simp only [openPc]
  rw [if_neg (by decide), if_neg (by decide), if_neg (by decide), if_pos trivial, h]
  rfl
theorem brackets_deep {f : Nat} {T : Toks} {a k d : Nat} (hd : d ≤ 8) (h : testQ f (d + 1) T = .error (17, k)) : oneQ (f + 1) d ((openPc, a) :: T) = .error (17, k) := by
  unfold oneQ
  rw [if_neg (by omega)]
  simp only [openPc]
  rw [if_neg (by decide), if_neg (by decide), if_neg (by decide), if_pos trivial, h]
theorem word_one {f : Nat} {T : Toks} {o : List Qn} {x : Pc} {r : Toks} {a d : Nat} (hd : d ≤ 8) (hx : x.kind = 1) (hw : ¬ wordQ x.text < 4) (h : oneQ f (d + 1) T = .ok (o, r)) : oneQ (f + 1) d ((x, a) :: T) = .ok (o ++ [⟨wordQ x.text, 0⟩], r) := by
  unfold oneQ
  rw [if_neg (by omega)]
  simp only
  rw [if_neg (by rw [hx]; decide), if_neg (by rw [hx]; decide), if_pos hx, if_neg hw, h]
theorem word_deep {f : Nat} {T : Toks} {x : Pc} {a d k : Nat} (hd : d ≤ 8) (hx : x.kind = 1) (hw : ¬ wordQ x.text < 4) (h : oneQ f (d + 1) T = .error (17, k)) : oneQ (f + 1) d ((x, a) :: T) = .error (17, k) := by
  unfold oneQ
  rw [if_neg (by omega)]
  simp only
  rw [if_neg (by rw [hx]; decide), if_neg (by rw [hx]; decide), if_pos hx, if_neg hw, h]
theorem tab_kinds : ∀ x ∈ tabPc, x.kind ≠ 5 := by decide +kernel
/-- A query that is right, read again with a closing bracket behind it. -/
theorem query_inner {s : List UInt8} {o : List Qn} {a : Nat} (h : queryQ s = (o, a, 0)) : ∃ L0 k, ¬ 48 < s.length ∧ a = 0 ∧ o.length ≤ 24 ∧ pcsL s = .ok (L0 ++ [(endPc, k)]) ∧ ∀ n, testQ (6 * (L0.length + 1) + 4) 0 ((L0.map fun x => (x.1, x.2 + n)) ++ [(shutPc, k + n), (endPc, k + n + 1)]) = .ok (o, [(shutPc, k + n), (endPc, k + n + 1)]) := by
  unfold queryQ at h
  by_cases h48 : 48 < s.length
  · rw [show pcsO s = ([], 0, 5) by unfold pcsO; rw [if_pos h48]] at h
    simp at h
  · cases hL : pcsL s with
    | error k =>
      rw [show pcsO s = ([], k, 3) by unfold pcsO; rw [if_neg h48, hL]] at h
      simp at h
    | ok L =>
      rw [show pcsO s = (L, 0, 0) by unfold pcsO; rw [if_neg h48, hL]] at h
      simp only [if_true] at h
      obtain ⟨rfl, h24, r, hr, hk⟩ := queryT_ok h
      obtain ⟨L0, k, rfl, htab⟩ := pcsF_end _ _ _ _ (Nat.lt_succ_self _) hL
      refine ⟨L0, k, h48, rfl, h24, rfl, fun n => ?_⟩
      rw [List.length_append, List.length_cons, List.length_nil, Nat.zero_add] at hr
      have w : Swp [(endPc, k)] [(shutPc, k + n), (endPc, k + n + 1)] (fun x => (x.1, x.2 + n)) := ⟨fun _ => rfl, ⟨k, rfl⟩, rfl⟩
      obtain ⟨rs, rfl, e⟩ := (swapped w _).2.2.2.2.2 0 L0 o r hr
      cases rs with
      | nil => exact e
      | cons y rs' =>
        exfalso
        obtain ⟨pre, hp⟩ := (rest_all _).2.2.2.2.2 0 _ _ _ hr
        rw [← List.append_assoc] at hp
        have hp2 := List.append_cancel_right hp
        exact tab_kinds _ (htab y (by rw [← hp2]; simp)) (by simpa using hk)
/-- In brackets. -/
theorem query_brackets {s : List UInt8} {o : List Qn} {a : Nat} (h : queryQ s = (o, a, 0)) : queryQ (40 :: (s ++ [41])) = (o, 0, 0) ∨ (47 ≤ s.length ∧ queryQ (40 :: (s ++ [41])) = ([], 0, 5)) ∨ ∃ k, queryQ (40 :: (s ++ [41])) = ([], k, 17) := by
  obtain ⟨L0, k, h48, rfl, h24, hL, ht⟩ := query_inner h
  have hlen : (40 :: (s ++ [41])).length = s.length + 2 := by simp
  obtain ⟨L1, k1, e1, e2⟩ := pcsL_brackets hL
  obtain ⟨rfl, e3⟩ := List.append_inj' e1 rfl
  cases e3
  unfold queryQ
  by_cases h46 : 48 < (40 :: (s ++ [41])).length
  · rw [show pcsO (40 :: (s ++ [41])) = ([], 0, 5) by unfold pcsO; rw [if_pos h46]]
    exact .inr (.inl ⟨by omega, rfl⟩)
  · rw [show pcsO (40 :: (s ++ [41])) = (_, 0, 0) by unfold pcsO; rw [if_neg h46, e2]]
    simp only [if_true]
    have hT := ht 1
    rcases (deeper 1 _).2.2.2.2.2 _ _ _ hT with hd | ⟨j, hd⟩
    · have hq := queryT_is (L := (openPc, 0) :: (L0.map fun x => (x.1, x.2 + 1)) ++ [(shutPc, k + 1), (endPc, k + 2)]) (by simp only [List.cons_append, List.length_cons, List.length_append, List.length_map, List.length_nil]; omega) (test_one (brackets_one (a := 0) (by decide) hd)) rfl
      rw [if_neg (by omega)] at hq
      exact .inl hq
    · have hq := queryT_deep (L := (openPc, 0) :: (L0.map fun x => (x.1, x.2 + 1)) ++ [(shutPc, k + 1), (endPc, k + 2)]) (by simp only [List.cons_append, List.length_cons, List.length_append, List.length_map, List.length_nil]; omega) (test_err (brackets_deep (a := 0) (by decide) hd))
      exact .inr (.inr ⟨j, hq⟩)
def somePc : Pc := ⟨1, [115, 111, 109, 101], 0⟩
theorem find_some_ : findPc [115, 111, 109, 101] = some somePc := by decide +kernel
theorem cut_some (z : List UInt8) : cutN (115 :: 111 :: 109 :: 101 :: 40 :: z) = 4 := by
  unfold cutN
  simp [show smallB 115 = true by decide, show smallB 111 = true by decide, show smallB 109 = true by decide, show smallB 101 = true by decide, show smallB 40 = false by decide]
theorem pcsL_some {z : List UInt8} {L : List (Pc × Nat)} (h : pcsL (40 :: z) = .ok L) : pcsL (115 :: 111 :: 109 :: 101 :: 40 :: z) = .ok ((somePc, 0) :: L.map fun x => (x.1, x.2 + 4)) := by
  have e := pcsF_on 4 _ _ _ _ h
  rw [Nat.zero_add, pcsF_fuel _ (z.length + 5) _ _ (Nat.lt_succ_self _) (by simp only [List.length_cons]; omega)] at e
  unfold pcsL
  rw [show (115 :: 111 :: 109 :: 101 :: 40 :: z).length + 1 = (z.length + 5) + 1 by simp]
  unfold pcsF
  rw [if_neg (by decide), cut_some, show List.take 4 (115 :: 111 :: 109 :: 101 :: 40 :: z) = [115, 111, 109, 101] from rfl, find_some_, show List.drop 4 (115 :: 111 :: 109 :: 101 :: 40 :: z) = 40 :: z from rfl, Nat.zero_add]
  simp only [e]
  rfl
/-- Behind a word, in brackets. -/
theorem query_word {s : List UInt8} {o : List Qn} {a : Nat} (h : queryQ s = (o, a, 0)) : queryQ (115 :: 111 :: 109 :: 101 :: 40 :: (s ++ [41])) = (o ++ [⟨11, 0⟩], 0, 0) ∨ (∃ k, queryQ (115 :: 111 :: 109 :: 101 :: 40 :: (s ++ [41])) = ([], k, 5)) ∨ ∃ k, queryQ (115 :: 111 :: 109 :: 101 :: 40 :: (s ++ [41])) = ([], k, 17) := by
  obtain ⟨L0, k, h48, rfl, h24, hL, ht⟩ := query_inner h
  obtain ⟨L1, k1, e1, e2⟩ := pcsL_brackets hL
  obtain ⟨rfl, e3⟩ := List.append_inj' e1 rfl
  cases e3
  have e4 := pcsL_some e2
  unfold queryQ
  by_cases h46 : 48 < (115 :: 111 :: 109 :: 101 :: 40 :: (s ++ [41])).length
  · rw [show pcsO (115 :: 111 :: 109 :: 101 :: 40 :: (s ++ [41])) = ([], 0, 5) by unfold pcsO; rw [if_pos h46]]
    exact .inr (.inl ⟨0, rfl⟩)
  · have em : (((openPc, 0) :: (L0.map fun x : Pc × Nat => (x.1, x.2 + 1)) ++ [(shutPc, k + 1), (endPc, k + 2)]).map fun x : Pc × Nat => (x.1, x.2 + 4)) = (openPc, 4) :: ((L0.map fun x : Pc × Nat => (x.1, x.2 + 5)) ++ [(shutPc, k + 5), (endPc, k + 5 + 1)]) := by
      simp [Function.comp_def, Nat.add_assoc]
    rw [em] at e4
    rw [show pcsO (115 :: 111 :: 109 :: 101 :: 40 :: (s ++ [41])) = (_, 0, 0) by unfold pcsO; rw [if_neg h46, e4]]
    simp only [if_true]
    have hT := ht 5
    have hw : ¬ wordQ somePc.text < 4 := by decide
    rcases (deeper 2 _).2.2.2.2.2 _ _ _ hT with hd2 | ⟨j, hd2⟩
    · have hb := brackets_one (a := 4) (d := 1) (by decide) hd2
      have hq := queryT_is (L := (somePc, 0) :: (openPc, 4) :: ((L0.map fun x => (x.1, x.2 + 5)) ++ [(shutPc, k + 5), (endPc, k + 5 + 1)])) (by simp only [List.length_cons, List.length_append, List.length_map, List.length_nil]; omega) (test_one (word_one (a := 0) (d := 0) (by decide) rfl hw hb)) rfl
      rw [show ((wordQ somePc.text : Nat) : Int) = 11 by decide] at hq
      by_cases h25 : 24 < (o ++ [(⟨11, 0⟩ : Qn)]).length
      · rw [if_pos h25] at hq
        exact .inr (.inl ⟨0, hq⟩)
      · rw [if_neg h25] at hq
        exact .inl hq
    · have hb := brackets_deep (a := 4) (d := 1) (by decide) hd2
      have hq := queryT_deep (L := (somePc, 0) :: (openPc, 4) :: ((L0.map fun x => (x.1, x.2 + 5)) ++ [(shutPc, k + 5), (endPc, k + 5 + 1)])) (by simp only [List.length_cons, List.length_append, List.length_map, List.length_nil]; omega) (test_err (word_deep (a := 0) (d := 0) (by decide) rfl hw hb))
      exact .inr (.inr ⟨j, hq⟩)
end Go.Proofs.YtfhjmhmgkdadhaaDoor
