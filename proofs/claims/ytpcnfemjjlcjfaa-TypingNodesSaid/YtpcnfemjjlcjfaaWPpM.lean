/-
  Valid lists of nodes, counted from the left; where an expression begins, counted from the right.
-/
import Derived.Test.YtpcnfemjjlcjfaaWParR
/-! PpM -/
namespace Go.Proofs.Ytpcnfemjjlcjfaa
open Go.RowKit

/-- Expressions so far that are no argument yet. -/
def cntR : Int → List Qn → Option Int
  | r, [] => some r
  | r, x :: l => if r < argN x.kind then none else cntR (r + (1 - argN x.kind)) l
theorem cntR_sub {s : List Qn} (h : SubQ s) : ∀ (r : Int) (t : List Qn), 0 ≤ r → cntR r (s ++ t) = cntR (r + 1) t := by
  induction h with
  | @leaf x hx =>
    intro r t hr
    show cntR r (x :: t) = _
    unfold cntR
    rw [hx, if_neg (by omega), show r + (1 - 0) = r + 1 by omega]
    cases t <;> rfl
  | @one a x _ hx ih =>
    intro r t hr
    rw [List.append_assoc, ih r _ hr]
    show cntR (r + 1) (x :: t) = _
    conv => lhs; unfold cntR
    rw [hx, if_neg (by omega), show r + 1 + (1 - 1) = r + 1 by omega]
  | @two a b x _ _ hx iha ihb =>
    intro r t hr
    rw [List.append_assoc, List.append_assoc, iha r _ hr, ihb (r + 1) _ (by omega)]
    show cntR (r + 1 + 1) (x :: t) = _
    conv => lhs; unfold cntR
    rw [hx, if_neg (by omega), show r + 1 + 1 + (1 - 2) = r + 1 by omega]
/-- So many expressions, one behind the other. -/
inductive FoQ : Nat → List Qn → Prop
  | none : FoQ 0 []
  | more {k : Nat} {p s : List Qn} : FoQ k p → SubQ s → FoQ (k + 1) (p ++ s)
theorem FoQ.step {k : Nat} {p : List Qn} {x : Qn} (h : FoQ k p) (h0 : 0 ≤ argN x.kind) (hk : argN x.kind ≤ (k : Int)) : ∃ n : Nat, (k : Int) + (1 - argN x.kind) = (n : Int) ∧ FoQ n (p ++ [x]) := by
  rcases argN_cases x.kind with e | e | e | e
  · omega
  · exact ⟨k + 1, by omega, .more h (.leaf e)⟩
  · cases h with
    | none => exact absurd hk (by rw [e]; decide)
    | @more k p s h hs => exact ⟨k + 1, by omega, by rw [List.append_assoc]; exact .more h (.one hs e)⟩
  · cases h with
    | none => exact absurd hk (by rw [e]; decide)
    | @more k p s h hs =>
      cases h with
      | none => exact absurd hk (by rw [e]; decide)
      | @more k p s2 h hs2 => exact ⟨k + 1, by omega, by rw [List.append_assoc, List.append_assoc, ← List.append_assoc s2]; exact .more h (.two hs2 hs e)⟩
theorem cntR_back : ∀ (l : List Qn) (k : Nat) (p : List Qn) (m : Int), (∀ x ∈ l, 0 ≤ argN x.kind) → FoQ k p → cntR (k : Int) l = some m → ∃ n : Nat, m = (n : Int) ∧ FoQ n (p ++ l)
  | [], k, p, m, _, hp, h => by
    cases h
    exact ⟨k, rfl, by rw [List.append_nil]; exact hp⟩
  | x :: l, k, p, m, hall, hp, h => by
    unfold cntR at h
    split at h
    · cases h
    · rename_i hk
      obtain ⟨n, hn, hf⟩ := hp.step (x := x) (hall x (List.mem_cons_self)) (by omega)
      rw [hn] at h
      obtain ⟨n2, e, h2⟩ := cntR_back l n (p ++ [x]) m (fun y hy => hall y (List.mem_cons_of_mem _ hy)) hf h
      exact ⟨n2, e, by rwa [List.append_assoc] at h2⟩
theorem rightQ_cnt {l : List Qn} (hall : ∀ x ∈ l, fineQ x) (h24 : l.length ≤ 24) : rightQ l ↔ cntR 0 l = some 1 := by
  rw [right_sub]
  constructor
  · rintro ⟨-, -, h⟩
    have := cntR_sub h 0 [] (Int.le_refl _)
    rw [List.append_nil] at this
    rw [this]; rfl
  · intro h
    obtain ⟨n, hn, hf⟩ := cntR_back l 0 [] 1 (fun x hx => (hall x hx).1) .none h
    obtain rfl : n = 1 := by omega
    rw [List.nil_append] at hf
    refine ⟨hall, h24, ?_⟩
    clear h hall h24 hn
    cases hf with
    | more h hs =>
      cases h
      rw [List.nil_append]; exact hs
/-- What is missing ahead of a place, and where nothing is. -/
def lpB (l : List Qn) : Int → Nat → Option Nat
  | m, 0 => if m ≤ 0 then some 0 else none
  | m, i + 1 => if m ≤ 0 then some (i + 1) else lpB l (m + (argN (kindQ l i) - 1)) i
theorem lpB_done (l : List Qn) {m : Int} (h : m ≤ 0) (i : Nat) : lpB l m i = some i := by
  cases i <;> (unfold lpB; rw [if_pos h])
theorem lpB_next (l : List Qn) {m : Int} (h : 0 < m) (i : Nat) : lpB l m (i + 1) = lpB l (m + (argN (kindQ l i) - 1)) i := by
  conv => lhs; unfold lpB
  rw [if_neg (by omega)]
theorem lpB_sub {s : List Qn} (h : SubQ s) : ∀ (pre post : List Qn) (m : Int), 0 ≤ m → lpB (pre ++ (s ++ post)) (m + 1) (pre.length + s.length) = lpB (pre ++ (s ++ post)) m pre.length := by
  induction h with
  | @leaf x hx =>
    intro pre post m hm
    rw [show pre.length + [x].length = pre.length + 1 from rfl, lpB_next _ (by omega), show pre ++ ([x] ++ post) = pre ++ x :: post from rfl, kindQ_mid, hx, show m + 1 + (0 - 1) = m by omega]
  | @one a x _ hx ih =>
    intro pre post m hm
    have e : pre ++ (a ++ [x] ++ post) = pre ++ (a ++ ([x] ++ post)) := by rw [List.append_assoc]
    have e2 : pre ++ (a ++ [x] ++ post) = (pre ++ a) ++ x :: post := by simp
    rw [show pre.length + (a ++ [x]).length = pre.length + a.length + 1 by rw [List.length_append, List.length_singleton]; omega, lpB_next _ (by omega)]
    have hk : kindQ (pre ++ (a ++ [x] ++ post)) (pre.length + a.length) = x.kind := by rw [e2, ← List.length_append, kindQ_mid]
    rw [hk, hx, show m + 1 + (1 - 1) = m + 1 by omega, e]
    exact ih pre ([x] ++ post) m hm
  | @two a b x _ _ hx iha ihb =>
    intro pre post m hm
    have e : pre ++ (a ++ b ++ [x] ++ post) = (pre ++ a) ++ (b ++ ([x] ++ post)) := by simp
    have e1 : pre ++ (a ++ b ++ [x] ++ post) = pre ++ (a ++ (b ++ ([x] ++ post))) := by simp
    have e2 : pre ++ (a ++ b ++ [x] ++ post) = (pre ++ a ++ b) ++ x :: post := by simp
    rw [show pre.length + (a ++ b ++ [x]).length = (pre ++ a ++ b).length + 1 by simp only [List.length_append, List.length_singleton]; omega, lpB_next _ (by omega)]
    have hk : kindQ (pre ++ (a ++ b ++ [x] ++ post)) (pre ++ a ++ b).length = x.kind := by rw [e2, kindQ_mid]
    rw [hk, hx, show m + 1 + (2 - 1) = m + 1 + 1 by omega, e, List.length_append]
    refine (ihb (pre ++ a) ([x] ++ post) (m + 1) (by omega)).trans ?_
    rw [← e, e1, List.length_append]
    exact iha pre _ m hm
theorem beg_lp {l : List Qn} (h : rightQ l) {i : Nat} (hi : i < l.length) : ∃ b, begQ l i = some b ∧ lpB l (argN (kindQ l i)) i = some b := by
  obtain ⟨b, hb, hle, -⟩ := right_parts h hi
  refine ⟨b, hb, ?_⟩
  obtain ⟨-, hs⟩ := begQ_back hi h.1 hb
  have h1 := lpB_next l (m := 1) (by decide) i
  rw [show (1 : Int) + (argN (kindQ l i) - 1) = argN (kindQ l i) by omega] at h1
  rw [← h1]
  have h2 := lpB_sub hs (l.take b) (l.drop (i + 1)) 0 (Int.le_refl _)
  have e : l.take b ++ ((l.drop b).take (i + 1 - b) ++ l.drop (i + 1)) = l := by
    rw [show l.drop (i + 1) = (l.drop b).drop (i + 1 - b) by rw [List.drop_drop]; congr 1; omega, List.take_append_drop, List.take_append_drop]
  rw [e, List.length_take, List.length_take, List.length_drop, show min b l.length = b by omega, show b + min (i + 1 - b) (l.length - b) = i + 1 by omega] at h2
  rw [show (1 : Int) = 0 + 1 from rfl, h2, lpB_done l (Int.le_refl _)]
end Go.Proofs.Ytpcnfemjjlcjfaa
