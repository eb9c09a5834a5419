/-
  Which nodes are right.
-/
import Derived.Test.YtpcnfemjjlcjfaaWParM
/-! ParN -/
namespace Go.Proofs.Ytpcnfemjjlcjfaa
open Go.RowKit

/-- How many arguments a kind has. -/
def argN (k : Int) : Int := if k < 1 ∨ 15 < k then -1 else if k ≤ 5 then 0 else if k ≤ 11 then 1 else 2
theorem argN_cases (k : Int) : argN k = -1 ∨ argN k = 0 ∨ argN k = 1 ∨ argN k = 2 := by
  unfold argN
  split
  · exact .inl rfl
  · split
    · exact .inr (.inl rfl)
    · split
      · exact .inr (.inr (.inl rfl))
      · exact .inr (.inr (.inr rfl))
/-- One expression, in postfix order. -/
inductive SubQ : List Qn → Prop
  | leaf {x : Qn} : argN x.kind = 0 → SubQ [x]
  | one {a : List Qn} {x : Qn} : SubQ a → argN x.kind = 1 → SubQ (a ++ [x])
  | two {a b : List Qn} {x : Qn} : SubQ a → SubQ b → argN x.kind = 2 → SubQ (a ++ b ++ [x])
theorem SubQ.ne {a : List Qn} (h : SubQ a) : 0 < a.length := by cases h <;> simp only [List.length_append, List.length_cons, List.length_nil] <;> omega
def kindQ (l : List Qn) (i : Nat) : Int := (l[i]?.map (·.kind)).getD 0
theorem kindQ_mid (pre : List Qn) (x : Qn) (post : List Qn) : kindQ (pre ++ x :: post) pre.length = x.kind := by
  unfold kindQ
  rw [List.getElem?_append_right (Nat.le_refl _), Nat.sub_self]
  rfl
/-- Where what ends with a node begins; or that there is not enough. -/
def begF : Nat → List Qn → Nat → Option Nat
  | 0, _, _ => none
  | f + 1, l, i => if argN (kindQ l i) = 1 then (if i < 1 then none else begF f l (i - 1))
    else if argN (kindQ l i) = 2 then (if i < 1 then none else match begF f l (i - 1) with
      | none => none
      | some a => if a < 1 then none else begF f l (a - 1))
    else some i
theorem beg_sub {s : List Qn} (h : SubQ s) : ∀ (pre post : List Qn) (f : Nat), s.length ≤ f → begF f (pre ++ (s ++ post)) (pre.length + s.length - 1) = some pre.length := by
  induction h with
  | @leaf x hx =>
    intro pre post f hf
    obtain ⟨f, rfl⟩ : ∃ k, f = k + 1 := ⟨f - 1, by simp at hf; omega⟩
    have e : pre.length + [x].length - 1 = pre.length := by simp
    unfold begF
    rw [e, show pre ++ ([x] ++ post) = pre ++ x :: post from rfl, kindQ_mid, hx]
    simp
  | @one a x ha hx ih =>
    intro pre post f hf
    have hne := ha.ne
    simp only [List.length_append, List.length_cons, List.length_nil] at hf
    obtain ⟨f, rfl⟩ : ∃ k, f = k + 1 := ⟨f - 1, by omega⟩
    have e : pre.length + (a ++ [x]).length - 1 = (pre ++ a).length := by simp
    have el : pre ++ (a ++ [x] ++ post) = (pre ++ a) ++ x :: post := by simp
    unfold begF
    rw [e, el, kindQ_mid, if_pos hx, if_neg (by simp only [List.length_append]; omega), ← el, show (pre ++ a).length - 1 = pre.length + a.length - 1 by simp, List.append_assoc a]
    exact ih pre ([x] ++ post) f (by omega)
  | @two a b x ha hb hx iha ihb =>
    intro pre post f hf
    have hna := ha.ne
    have hnb := hb.ne
    simp only [List.length_append, List.length_cons, List.length_nil] at hf
    obtain ⟨f, rfl⟩ : ∃ k, f = k + 1 := ⟨f - 1, by omega⟩
    have e : pre.length + (a ++ b ++ [x]).length - 1 = (pre ++ (a ++ b)).length := by simp only [List.length_append, List.length_cons, List.length_nil]; omega
    have el : pre ++ (a ++ b ++ [x] ++ post) = (pre ++ (a ++ b)) ++ x :: post := by simp
    unfold begF
    rw [e, el, kindQ_mid, if_neg (by rw [hx]; decide), if_pos hx, if_neg (by simp only [List.length_append]; omega)]
    have e1 : (pre ++ (a ++ b)) ++ x :: post = (pre ++ a) ++ (b ++ ([x] ++ post)) := by simp
    have e2 : (pre ++ (a ++ b)) ++ x :: post = pre ++ (a ++ (b ++ [x] ++ post)) := by simp
    have i1 : (pre ++ (a ++ b)).length - 1 = (pre ++ a).length + b.length - 1 := by simp only [List.length_append]; omega
    rw [i1, e1, ihb (pre ++ a) ([x] ++ post) f (by omega)]
    simp only
    rw [if_neg (by simp only [List.length_append]; omega), ← e1, e2, show (pre ++ a).length - 1 = pre.length + a.length - 1 by simp]
    exact iha pre (b ++ [x] ++ post) f (by omega)
theorem kindQ_at {l : List Qn} {i : Nat} (h : i < l.length) : kindQ l i = l[i].kind := by
  unfold kindQ
  rw [List.getElem?_eq_getElem h]
  rfl
theorem piece_snoc {l : List Qn} {b i : Nat} (h : i < l.length) (hb : b ≤ i) : (l.drop b).take (i + 1 - b) = (l.drop b).take (i - b) ++ [l[i]] := by
  have hlt : i - b < (l.drop b).length := by rw [List.length_drop]; omega
  rw [show i + 1 - b = (i - b) + 1 by omega, List.take_succ_eq_append_getElem hlt]
  congr 1
  rw [List.getElem_drop]
  congr 2
  omega
theorem piece_join {l : List Qn} {b a i : Nat} (h1 : b ≤ a) (h2 : a ≤ i) : (l.drop b).take (i - b) = (l.drop b).take (a - b) ++ (l.drop a).take (i - a) := by
  rw [show i - b = (a - b) + (i - a) by omega, List.take_add, List.drop_drop, show b + (a - b) = a by omega]
theorem beg_back : ∀ (f : Nat) (l : List Qn) (i b : Nat), i < l.length → (∀ x ∈ l, 0 ≤ argN x.kind) → begF f l i = some b → b ≤ i ∧ SubQ ((l.drop b).take (i + 1 - b))
  | 0, _, _, _, _, _, h => by cases h
  | f + 1, l, i, b, hi, hall, h => by
    unfold begF at h
    rw [kindQ_at hi] at h
    by_cases h1 : argN l[i].kind = 1
    · rw [if_pos h1] at h
      split at h
      · cases h
      · obtain ⟨p1, p2⟩ := beg_back f l (i - 1) b (by omega) hall h
        refine ⟨by omega, ?_⟩
        rw [piece_snoc hi (by omega)]
        rw [show i - 1 + 1 - b = i - b by omega] at p2
        exact .one p2 h1
    · rw [if_neg h1] at h
      by_cases h2 : argN l[i].kind = 2
      · rw [if_pos h2] at h
        split at h
        · cases h
        · split at h
          · cases h
          · rename_i a ea
            split at h
            · cases h
            · obtain ⟨p1, p2⟩ := beg_back f l (i - 1) a (by omega) hall ea
              obtain ⟨q1, q2⟩ := beg_back f l (a - 1) b (by omega) hall h
              refine ⟨by omega, ?_⟩
              rw [piece_snoc hi (by omega), piece_join (a := a) (by omega) (by omega)]
              rw [show i - 1 + 1 - a = i - a by omega] at p2
              rw [show a - 1 + 1 - b = a - b by omega] at q2
              exact .two q2 p2 h2
      · rw [if_neg h2] at h
        cases h
        refine ⟨Nat.le_refl _, ?_⟩
        rw [piece_snoc hi (Nat.le_refl _), Nat.sub_self, List.take_zero, List.nil_append]
        have h0 := hall _ (List.getElem_mem hi)
        rcases argN_cases l[i].kind with e | e | e | e
        · omega
        · exact .leaf e
        · exact absurd e h1
        · exact absurd e h2
/-- What a node may hold. -/
def fineQ (x : Qn) : Prop := 0 ≤ argN x.kind ∧ 0 ≤ x.n ∧ x.n ≤ 15 ∧ (0 < x.n → x.kind = 4 ∨ x.kind = 5)
/-- The document's right. -/
def rightQ (l : List Qn) : Prop := (∀ x ∈ l, fineQ x) ∧ 0 < l.length ∧ l.length ≤ 24 ∧ begF l.length l (l.length - 1) = some 0
theorem right_sub {l : List Qn} : rightQ l ↔ (∀ x ∈ l, fineQ x) ∧ l.length ≤ 24 ∧ SubQ l := by
  constructor
  · rintro ⟨h1, h2, h3, h4⟩
    obtain ⟨-, h5⟩ := beg_back _ _ _ _ (by omega) (fun x hx => (h1 x hx).1) h4
    rw [List.drop_zero, show l.length - 1 + 1 - 0 = l.length by omega, List.take_length] at h5
    exact ⟨h1, h3, h5⟩
  · rintro ⟨h1, h2, h3⟩
    refine ⟨h1, h3.ne, h2, ?_⟩
    have h := beg_sub h3 [] [] l.length (Nat.le_refl _)
    simpa using h
end Go.Proofs.Ytpcnfemjjlcjfaa
