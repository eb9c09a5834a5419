/-
  Types of nodes by the number of their arguments; types of a query counted from the left.
-/
import Derived.Test.YtpcnfemjjlcjfaaWTyB
import Derived.Test.YtpcnfemjjlcjfaaWTyN
import Derived.Test.YtpcnfemjjlcjfaaWPpA
/-! TpA -/
namespace Go.Proofs.Ytpcnfemjjlcjfaa
open Go.RowKit

theorem rules_none : ∀ r ∈ rulesQ, r.a = 0 → argN r.kind = 0 := by decide +kernel
theorem rules_one : ∀ r ∈ rulesQ, 1 ≤ r.a → r.b = 0 → argN r.kind = 1 := by decide +kernel
theorem rules_two : ∀ r ∈ rulesQ, 1 ≤ r.b → argN r.kind = 2 := by decide +kernel
theorem rules_a : ∀ r ∈ rulesQ, r.a ≤ 2 := by decide +kernel
theorem rules_same : ∀ r ∈ rulesQ, r.b = 0 ∨ r.a = r.b := by decide +kernel
theorem nodeT_len {k : Int} {args : List Int} (h : ¬ (args.length : Int) = argN k) : nodeT k args = 0 := by
  by_cases h2 : 2 < args.length
  · exact nodeT_many h2
  by_cases h1 : ∃ a ∈ args, a < 1
  · obtain ⟨a, ha, h1⟩ := h1
    exact nodeT_low ha h1
  have h3 : ∀ x ∈ args, 1 ≤ x := fun x hx => by
    by_cases hx1 : x < 1
    · exact absurd ⟨x, hx, hx1⟩ h1
    · omega
  rw [nodeT_rule h2 h3]
  clear h1
  refine ruleT_none fun i hi hr => ?_
  have hm := List.getElem_mem hi
  generalize rulesQ[i] = r at *
  obtain ⟨rfl, ha, hb⟩ := hr
  match args, h2, h3, ha, hb with
  | [], _, _, ha, _ => exact h (by rw [rules_none r hm ha]; rfl)
  | [a], _, h3, ha, hb => exact h (by rw [rules_one r hm (by rw [ha]; exact h3 a (by simp)) hb]; rfl)
  | [a, b], _, h3, _, hb => exact h (by rw [rules_two r hm (by rw [hb]; exact h3 b (by simp))]; rfl)
  | _ :: _ :: _ :: _, h2, _, _, _ => exact absurd h2 (by simp)
theorem nodeT_word (k : Int) {a : Int} (h1 : ¬ a = 1) (h2 : ¬ a = 2) : nodeT k [a] = 0 := by
  by_cases h : a < 1
  · exact nodeT_low (by simp) h
  rw [nodeT_rule (by simp) (by simp; omega)]
  refine ruleT_none fun i hi hr => ?_
  have := rules_a _ (List.getElem_mem hi)
  have h3 : rulesQ[i].a = a := hr.2.1
  omega
theorem nodeT_sign (k : Int) {a b : Int} (h : ¬ a = b ∨ ¬ a = 1 ∧ ¬ a = 2) : nodeT k [a, b] = 0 := by
  by_cases h1 : a < 1
  · exact nodeT_low (by simp) h1
  by_cases h2 : b < 1
  · exact nodeT_low (x := b) (by simp) h2
  rw [nodeT_rule (by simp) (by simp; omega)]
  refine ruleT_none fun i hi hr => ?_
  have r1 := rules_a _ (List.getElem_mem hi)
  have r2 := rules_same _ (List.getElem_mem hi)
  have h3 : rulesQ[i].a = a := hr.2.1
  have h4 : rulesQ[i].b = b := hr.2.2
  omega
/-- The types so far that are no argument yet; else the first node without a type. -/
def runT : Nat → List Int → List Qn → Except Nat (List Int)
  | _, st, [] => .ok st
  | i, st, x :: l => if nodeT x.kind (st.drop (st.length - (argN x.kind).toNat)) = 0 then .error i else runT (i + 1) (st.take (st.length - (argN x.kind).toNat) ++ [nodeT x.kind (st.drop (st.length - (argN x.kind).toNat))]) l
theorem runT_own {i : Nat} {st : List Int} {x : Qn} {l : List Qn} {args : List Int} (h : argN x.kind = (args.length : Int)) : runT i (st ++ args) (x :: l) = match ownT x.kind i args with
    | .ok t => runT (i + 1) (st ++ [t]) l
    | .error b => .error b := by
  have hl : (st ++ args).length - (argN x.kind).toNat = st.length := by rw [h, List.length_append]; omega
  conv => lhs; unfold runT
  rw [hl, List.drop_left, List.take_left]
  unfold ownT
  split <;> rfl
theorem runT_sub {s : List Qn} (h : SubQ s) : ∀ (pre post : List Qn) (st : List Int) (l : List Qn), runT pre.length st (s ++ l) = match typQ (pre ++ (s ++ post)) (pre.length + s.length - 1) with
    | .ok t => runT (pre.length + s.length) (st ++ [t]) l
    | .error b => .error b := by
  induction h with
  | @leaf x hx =>
    intro pre post st l
    have hk : kindQ (pre ++ ([x] ++ post)) (pre.length + [x].length - 1) = x.kind := kindQ_last pre [] x post
    rw [typQ_none (by rw [hk, hx]; decide) (by rw [hk, hx]; decide), hk]
    have hr := runT_own (i := pre.length) (st := st) (x := x) (l := l) (args := []) hx
    rw [List.append_nil] at hr
    exact hr
  | @one a x ha hx ih =>
    intro pre post st l
    have hs := ih pre ([x] ++ post) st (x :: l)
    have e2 : pre.length + (a ++ [x]).length - 1 = pre.length + a.length := by simp
    have e3 : pre.length + (a ++ [x]).length = pre.length + a.length + 1 := by simp; omega
    rw [← List.append_assoc a] at hs
    rw [typ_one ha.ne hx, e2, e3, show a ++ [x] ++ l = a ++ (x :: l) by simp, hs]
    cases typQ (pre ++ (a ++ [x] ++ post)) (pre.length + a.length - 1) with
    | error b => rfl
    | ok t => exact runT_own (args := [t]) hx
  | @two a b x ha hb hx iha ihb =>
    intro pre post st l
    have e2 : pre.length + (a ++ b ++ [x]).length - 1 = pre.length + (a.length + b.length) := by simp only [List.length_append, List.length_cons, List.length_nil]; omega
    have e3 : pre.length + (a ++ b ++ [x]).length = pre.length + (a.length + b.length) + 1 := by simp only [List.length_append, List.length_cons, List.length_nil]; omega
    have el1 : pre ++ (a ++ b ++ [x] ++ post) = (pre ++ a) ++ (b ++ ([x] ++ post)) := by simp
    have el2 : pre ++ (a ++ b ++ [x] ++ post) = pre ++ (a ++ (b ++ [x] ++ post)) := by simp
    have hsa := iha pre (b ++ [x] ++ post) st (b ++ (x :: l))
    rw [← el2] at hsa
    rw [typ_two hb ha.ne hx, e2, e3, show a ++ b ++ [x] ++ l = a ++ (b ++ (x :: l)) by simp, hsa]
    cases typQ (pre ++ (a ++ b ++ [x] ++ post)) (pre.length + a.length - 1) with
    | error b => rfl
    | ok t1 =>
      have hsb := ihb (pre ++ a) ([x] ++ post) (st ++ [t1]) (x :: l)
      have hL : (pre ++ a).length = pre.length + a.length := List.length_append
      rw [← el1, hL, Nat.add_assoc] at hsb
      show runT (pre.length + a.length) (st ++ [t1]) (b ++ x :: l) = match bindT (typQ (pre ++ (a ++ b ++ [x] ++ post)) ((pre ++ a).length + b.length - 1)) fun t2 => ownT x.kind (pre.length + (a.length + b.length)) [t1, t2] with
        | .ok t => runT (pre.length + (a.length + b.length) + 1) (st ++ [t]) l
        | .error b => .error b
      rw [hL, Nat.add_assoc pre.length a.length b.length, hsb]
      cases typQ (pre ++ (a ++ b ++ [x] ++ post)) (pre.length + (a.length + b.length) - 1) with
      | error b => rfl
      | ok t2 =>
        have hr := runT_own (i := pre.length + (a.length + b.length)) (st := st) (x := x) (l := l) (args := [t1, t2]) hx
        refine Eq.trans ?_ hr
        show runT _ (st ++ [t1] ++ [t2]) _ = _
        rw [List.append_assoc]
        rfl
theorem runT_whole {l : List Qn} (h : rightQ l) : runT 0 [] l = match typQ l (l.length - 1) with
    | .ok t => .ok [t]
    | .error b => .error b := by
  obtain ⟨-, -, hs⟩ := right_sub.1 h
  have := runT_sub hs [] [] [] []
  simp only [List.append_nil, List.nil_append, List.length_nil, Nat.zero_add] at this
  rw [this]
  cases typQ l (l.length - 1) <;> rfl
/-- A turn at place k. -/
theorem runT_go {l : List Qn} {st : List Int} {k : Nat} (h : runT k st (l.drop k) = runT 0 [] l) (hk : k < l.length) : runT 0 [] l = if nodeT l[k].kind (st.drop (st.length - (argN l[k].kind).toNat)) = 0 then .error k else runT (k + 1) (st.take (st.length - (argN l[k].kind).toNat) ++ [nodeT l[k].kind (st.drop (st.length - (argN l[k].kind).toNat))]) (l.drop (k + 1)) := by
  rw [← h, List.drop_eq_getElem_cons hk]
  conv => lhs; unfold runT
theorem typeQ_stop {l : List Qn} (h : rightQ l) {k : Nat} (hr : runT 0 [] l = .error k) : typeQ l = (0, k, 16) := by
  rw [runT_whole h] at hr
  cases ht : typQ l (l.length - 1) with
  | ok t => rw [ht] at hr; cases hr
  | error b =>
    rw [ht] at hr
    cases hr
    exact typeQ_bad h ht
theorem typeQ_end {l : List Qn} (h : rightQ l) {st : List Int} {k : Nat} (hr : runT k st (l.drop k) = runT 0 [] l) (hk : l.length ≤ k) : ∃ t, st = [t] ∧ typeQ l = (t, 0, 0) := by
  rw [List.drop_eq_nil_of_le hk, runT_whole h] at hr
  unfold runT at hr
  cases ht : typQ l (l.length - 1) with
  | error b => rw [ht] at hr; cases hr
  | ok t =>
    rw [ht] at hr
    cases hr
    exact ⟨t, rfl, typeQ_ok h ht⟩
theorem tpKeep : KeepX fun _ => True := ⟨fun _ _ => trivial⟩
theorem tpArgs_any {G : World → Prop} : YArgsC G := fun k w _ _ _ => ppArgs_all k w
theorem tpRight_any {G : World → Prop} : YRightC G := fun l v w _ hv _ hl => ppRight_all l v w hv hl
theorem tpBegin_any {G : World → Prop} : YBeginC G := fun l i v w _ hv hr hi => ppBegin_all l i v w hv hr hi
end Go.Proofs.Ytpcnfemjjlcjfaa
