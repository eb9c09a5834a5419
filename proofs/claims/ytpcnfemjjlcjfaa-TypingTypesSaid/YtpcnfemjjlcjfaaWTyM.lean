/-
  Types of queries in plain terms.
-/
import Derived.Test.YtpcnfemjjlcjfaaWParR
/-! TyM -/
namespace Go.Proofs.Ytpcnfemjjlcjfaa
open Go.RowKit

/-- A rule: a kind, its arguments' types (0: none), its type. -/
structure Ru where
  kind : Int
  a : Int
  b : Int
  t : Int
deriving DecidableEq
def ru0 : List Ru := [⟨1, 0, 0, 1⟩, ⟨3, 0, 0, 1⟩, ⟨4, 0, 0, 1⟩, ⟨2, 0, 0, 2⟩, ⟨5, 0, 0, 2⟩, ⟨6, 1, 0, 1⟩, ⟨7, 1, 0, 1⟩, ⟨8, 1, 0, 2⟩, ⟨9, 2, 0, 1⟩]
def ruS (s : Int) : List Ru := [⟨10, s, 0, 3⟩, ⟨11, s, 0, 4⟩, ⟨12, s, s, s⟩, ⟨13, s, s, s⟩, ⟨14, s, s, s⟩, ⟨15, s, s, 4⟩]
def rulesQ : List Ru := ru0 ++ ruS 1 ++ ruS 2
def ruleT (k a b : Int) : Int := match rulesQ.find? fun r => decide (r.kind = k ∧ r.a = a ∧ r.b = b) with
  | some r => r.t
  | none => 0
/-- The type of a node by those of its arguments; 0: none. -/
def nodeT (k : Int) (args : List Int) : Int := if 2 < args.length ∨ (∃ a ∈ args, a < 1) then 0 else ruleT k (args.getD 0 0) (args.getD 1 0)
theorem rules_pos : ∀ r ∈ rulesQ, 1 ≤ r.t ∧ r.t ≤ 4 := by decide +kernel
theorem ruleT_range (k a b : Int) : ruleT k a b = 0 ∨ (1 ≤ ruleT k a b ∧ ruleT k a b ≤ 4) := by
  unfold ruleT
  split
  · rename_i r h
    exact .inr (rules_pos r (List.mem_of_find?_eq_some h))
  · exact .inl rfl
theorem nodeT_range (k : Int) (args : List Int) : nodeT k args = 0 ∨ (1 ≤ nodeT k args ∧ nodeT k args ≤ 4) := by
  unfold nodeT
  split
  · exact .inl rfl
  · exact ruleT_range _ _ _
/-- A type, or the first node that has none. -/
abbrev TyR := Except Nat Int
def ownT (k : Int) (i : Nat) (args : List Int) : TyR := if nodeT k args = 0 then .error i else .ok (nodeT k args)
def bindT (R : TyR) (g : Int → TyR) : TyR := match R with
  | .error b => .error b
  | .ok t => g t
/-- The type of what ends with a node. -/
def typF : Nat → List Qn → Nat → TyR
  | 0, _, _ => .error 0
  | f + 1, l, i => if argN (kindQ l i) = 1 then (if i < 1 then .error 0 else bindT (typF f l (i - 1)) fun t => ownT (kindQ l i) i [t])
    else if argN (kindQ l i) = 2 then (if i < 1 then .error 0 else bindT (typF f l ((begQ l (i - 1)).getD 0 - 1)) fun t1 => bindT (typF f l (i - 1)) fun t2 => ownT (kindQ l i) i [t1, t2])
    else ownT (kindQ l i) i []
def shiftT (n : Nat) : TyR → TyR
  | .error b => .error (n + b)
  | .ok t => .ok t
theorem shiftT_own (n : Nat) (k : Int) (i : Nat) (args : List Int) : shiftT n (ownT k i args) = ownT k (n + i) args := by
  unfold ownT
  split <;> rfl
theorem shiftT_bind (n : Nat) (R : TyR) (g : Int → TyR) : shiftT n (bindT R g) = bindT (shiftT n R) fun t => shiftT n (g t) := by cases R <;> rfl
theorem shiftT_add (m n : Nat) (R : TyR) : shiftT m (shiftT n R) = shiftT (m + n) R := by
  cases R with
  | error b => show Except.error (m + (n + b)) = Except.error (m + n + b); rw [Nat.add_assoc]
  | ok t => rfl
theorem shiftT_zero (R : TyR) : shiftT 0 R = R := by
  cases R with
  | error b => show Except.error (0 + b) = _; rw [Nat.zero_add]
  | ok t => rfl
def OkT (R : TyR) : Prop := ∃ t, R = .ok t
theorem OkT.bind {R : TyR} {g : Int → TyR} (h : OkT (bindT R g)) : ∃ t, R = .ok t ∧ OkT (g t) := by
  cases R with
  | error b => obtain ⟨_, h⟩ := h; cases h
  | ok t => exact ⟨t, rfl, h⟩
theorem kindQ_last (pre s : List Qn) (x : Qn) (post : List Qn) : kindQ (pre ++ (s ++ [x] ++ post)) (pre.length + (s ++ [x]).length - 1) = x.kind := by
  have e : pre.length + (s ++ [x]).length - 1 = (pre ++ s).length := by simp
  have el : pre ++ (s ++ [x] ++ post) = (pre ++ s) ++ x :: post := by simp
  rw [e, el, kindQ_mid]
theorem begQ_sub {s : List Qn} (h : SubQ s) (pre post : List Qn) : begQ (pre ++ (s ++ post)) (pre.length + s.length - 1) = some pre.length :=
  beg_sub h pre post _ (by have := h.ne; omega)
theorem begQ_getD (l : List Qn) (i : Nat) : (begQ l i).getD 0 ≤ i := by
  cases e : begQ l i with
  | none => exact Nat.zero_le _
  | some b => exact begF_le _ _ _ _ e
theorem typF_fuel : ∀ (f g : Nat) (l : List Qn) (i : Nat), i < f → i < g → typF f l i = typF g l i
  | 0, _, _, _, h, _ => absurd h (by omega)
  | _, 0, _, _, _, h => absurd h (by omega)
  | f + 1, g + 1, l, i, h1, h2 => by
    have hb := begQ_getD l (i - 1)
    unfold typF
    by_cases h0 : i < 1
    · simp only [if_pos h0]
    · simp only [if_neg h0]
      rw [typF_fuel f g l (i - 1) (by omega) (by omega), typF_fuel f g l ((begQ l (i - 1)).getD 0 - 1) (by omega) (by omega)]
def typQ (l : List Qn) (i : Nat) : TyR := typF (i + 1) l i
theorem typQ_none {l : List Qn} {i : Nat} (h1 : ¬ argN (kindQ l i) = 1) (h2 : ¬ argN (kindQ l i) = 2) : typQ l i = ownT (kindQ l i) i [] := by
  unfold typQ
  rw [typF.eq_def (i + 1)]
  simp only
  rw [if_neg h1, if_neg h2]
theorem typQ_one {l : List Qn} {i : Nat} (h : argN (kindQ l i) = 1) (hi : 0 < i) : typQ l i = bindT (typQ l (i - 1)) fun t => ownT (kindQ l i) i [t] := by
  unfold typQ
  rw [typF.eq_def (i + 1)]
  simp only
  rw [if_pos h, if_neg (by omega), typF_fuel i (i - 1 + 1) l (i - 1) (by omega) (by omega)]
theorem typQ_two {l : List Qn} {i c : Nat} (h : argN (kindQ l i) = 2) (hi : 0 < i) (hc : begQ l (i - 1) = some c) : typQ l i = bindT (typQ l (c - 1)) fun t1 => bindT (typQ l (i - 1)) fun t2 => ownT (kindQ l i) i [t1, t2] := by
  have hb := begQ_getD l (i - 1)
  rw [hc, Option.getD_some] at hb
  unfold typQ
  rw [typF.eq_def (i + 1)]
  simp only
  rw [if_neg (by rw [h]; decide), if_pos h, if_neg (by omega), hc, Option.getD_some, typF_fuel i (i - 1 + 1) l (i - 1) (by omega) (by omega), typF_fuel i (c - 1 + 1) l (c - 1) (by omega) (by omega)]
/-- A node with two arguments, among others. -/
theorem typ_two {a b : List Qn} {x : Qn} (hb : SubQ b) (ha : 0 < a.length) (hx : argN x.kind = 2) (pre post : List Qn) : typQ (pre ++ (a ++ b ++ [x] ++ post)) (pre.length + (a ++ b ++ [x]).length - 1) = bindT (typQ (pre ++ (a ++ b ++ [x] ++ post)) (pre.length + a.length - 1)) fun t1 => bindT (typQ (pre ++ (a ++ b ++ [x] ++ post)) ((pre ++ a).length + b.length - 1)) fun t2 => ownT x.kind (pre.length + (a ++ b ++ [x]).length - 1) [t1, t2] := by
  have hnb := hb.ne
  have hk := kindQ_last pre (a ++ b) x post
  have e1 : pre.length + (a ++ b ++ [x]).length - 1 - 1 = (pre ++ a).length + b.length - 1 := by simp only [List.length_append, List.length_cons, List.length_nil]; omega
  have el1 : pre ++ (a ++ b ++ [x] ++ post) = (pre ++ a) ++ (b ++ ([x] ++ post)) := by simp
  have hbeg := begQ_sub hb (pre ++ a) ([x] ++ post)
  rw [← el1, ← e1] at hbeg
  rw [typQ_two (by rw [hk]; exact hx) (by simp only [List.length_append, List.length_cons, List.length_nil]; omega) hbeg, hk, e1, show (pre ++ a).length - 1 = pre.length + a.length - 1 by simp]
theorem typ_one {a : List Qn} {x : Qn} (ha : 0 < a.length) (hx : argN x.kind = 1) (pre post : List Qn) : typQ (pre ++ (a ++ [x] ++ post)) (pre.length + (a ++ [x]).length - 1) = bindT (typQ (pre ++ (a ++ [x] ++ post)) (pre.length + a.length - 1)) fun t => ownT x.kind (pre.length + (a ++ [x]).length - 1) [t] := by
  have hk := kindQ_last pre a x post
  have e1 : pre.length + (a ++ [x]).length - 1 - 1 = pre.length + a.length - 1 := by simp
  rw [typQ_one (by rw [hk]; exact hx) (by simp only [List.length_append, List.length_cons, List.length_nil]; omega), hk, e1]
/-- What ends with a node has a type of its own, wherever it stands. -/
theorem typ_sub {s : List Qn} (h : SubQ s) : ∃ R : TyR, ∀ pre post : List Qn, typQ (pre ++ (s ++ post)) (pre.length + s.length - 1) = shiftT pre.length R := by
  induction h with
  | @leaf x hx =>
    refine ⟨ownT x.kind 0 [], fun pre post => ?_⟩
    have hk : kindQ (pre ++ ([x] ++ post)) (pre.length + [x].length - 1) = x.kind := kindQ_last pre [] x post
    rw [typQ_none (by rw [hk, hx]; decide) (by rw [hk, hx]; decide), hk, shiftT_own]
    simp
  | @one a x ha hx ih =>
    obtain ⟨R, hR⟩ := ih
    refine ⟨bindT R fun t => ownT x.kind a.length [t], fun pre post => ?_⟩
    have e2 : pre.length + (a ++ [x]).length - 1 = pre.length + a.length := by simp
    have hs := hR pre ([x] ++ post)
    rw [← List.append_assoc a] at hs
    rw [typ_one ha.ne hx, hs, shiftT_bind, e2]
    congr 1
    funext t
    rw [shiftT_own]
  | @two a b x ha hb hx iha ihb =>
    obtain ⟨Ra, hRa⟩ := iha
    obtain ⟨Rb, hRb⟩ := ihb
    refine ⟨bindT Ra fun t1 => bindT (shiftT a.length Rb) fun t2 => ownT x.kind (a.length + b.length) [t1, t2], fun pre post => ?_⟩
    have e2 : pre.length + (a ++ b ++ [x]).length - 1 = pre.length + (a.length + b.length) := by simp only [List.length_append, List.length_cons, List.length_nil]; omega
    have el1 : pre ++ (a ++ b ++ [x] ++ post) = (pre ++ a) ++ (b ++ ([x] ++ post)) := by simp
    have el2 : pre ++ (a ++ b ++ [x] ++ post) = pre ++ (a ++ (b ++ [x] ++ post)) := by simp
    have hsb := hRb (pre ++ a) ([x] ++ post)
    have hsa := hRa pre (b ++ [x] ++ post)
    rw [← el1] at hsb
    rw [← el2] at hsa
    rw [typ_two hb ha.ne hx, hsa, hsb, shiftT_bind, e2]
    congr 1
    funext t1
    rw [shiftT_bind, shiftT_add, List.length_append]
    congr 1
    funext t2
    rw [shiftT_own]
/-- Where the whole has a type, each part has one. -/
theorem typ_parts {s : List Qn} (h : SubQ s) : ∀ pre post : List Qn, OkT (typQ (pre ++ (s ++ post)) (pre.length + s.length - 1)) → ∀ i, i < s.length → OkT (typQ (pre ++ (s ++ post)) (pre.length + i)) := by
  induction h with
  | @leaf x hx =>
    intro pre post h i hi
    obtain rfl : i = 0 := by simp at hi; omega
    simpa using h
  | @one a x ha hx ih =>
    intro pre post h i hi
    by_cases hl : i = a.length
    · subst hl
      have e2 : pre.length + (a ++ [x]).length - 1 = pre.length + a.length := by simp
      rwa [e2] at h
    · rw [typ_one ha.ne hx] at h
      obtain ⟨t, ht, -⟩ := h.bind
      have := ih pre ([x] ++ post) (by rw [← List.append_assoc a]; exact ⟨t, ht⟩) i (by simp only [List.length_append, List.length_cons, List.length_nil] at hi; omega)
      rwa [← List.append_assoc a] at this
  | @two a b x ha hb hx iha ihb =>
    intro pre post h i hi
    have el1 : pre ++ (a ++ b ++ [x] ++ post) = (pre ++ a) ++ (b ++ ([x] ++ post)) := by simp
    have el2 : pre ++ (a ++ b ++ [x] ++ post) = pre ++ (a ++ (b ++ [x] ++ post)) := by simp
    simp only [List.length_append, List.length_cons, List.length_nil] at hi
    by_cases hl : i = a.length + b.length
    · subst hl
      have e2 : pre.length + (a ++ b ++ [x]).length - 1 = pre.length + (a.length + b.length) := by simp only [List.length_append, List.length_cons, List.length_nil]; omega
      rwa [e2] at h
    · rw [typ_two hb ha.ne hx] at h
      obtain ⟨t1, h1, h⟩ := h.bind
      obtain ⟨t2, h2, -⟩ := h.bind
      by_cases hi2 : i < a.length
      · have := iha pre (b ++ [x] ++ post) (by rw [← el2]; exact ⟨t1, h1⟩) i hi2
        rwa [← el2] at this
      · have := ihb (pre ++ a) ([x] ++ post) (by rw [← el1]; exact ⟨t2, h2⟩) (i - a.length) (by omega)
        rw [← el1, List.length_append, show pre.length + a.length + (i - a.length) = pre.length + i by omega] at this
        exact this
end Go.Proofs.Ytpcnfemjjlcjfaa
