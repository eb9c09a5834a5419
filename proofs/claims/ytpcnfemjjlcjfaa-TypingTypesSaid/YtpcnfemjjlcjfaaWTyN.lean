/-
  What a query's type is: of all nodes; parts of what has a type.
-/
import Derived.Test.YtpcnfemjjlcjfaaWTyM
/-! TyN -/
namespace Go.Proofs.Ytpcnfemjjlcjfaa
open Go.RowKit

instance fineQ_dec (x : Qn) : Decidable (fineQ x) := by unfold fineQ; infer_instance
instance rightQ_dec (l : List Qn) : Decidable (rightQ l) := by unfold rightQ; infer_instance
/-- The type, the first node that has none, the fault. -/
def typeQ (l : List Qn) : Int × Nat × Nat := if rightQ l then match typQ l (l.length - 1) with
    | .ok t => (t, 0, 0)
    | .error b => (0, b, 16)
  else (0, 0, 3)
theorem typeQ_no {l : List Qn} (h : ¬ rightQ l) : typeQ l = (0, 0, 3) := if_neg h
theorem typeQ_ok {l : List Qn} (h : rightQ l) {t : Int} (ht : typQ l (l.length - 1) = .ok t) : typeQ l = (t, 0, 0) := by
  unfold typeQ; rw [if_pos h, ht]
theorem typeQ_bad {l : List Qn} (h : rightQ l) {b : Nat} (ht : typQ l (l.length - 1) = .error b) : typeQ l = (0, b, 16) := by
  unfold typeQ; rw [if_pos h, ht]
theorem ownT_range {k : Int} {i : Nat} {args : List Int} {t : Int} (h : ownT k i args = .ok t) : 1 ≤ t ∧ t ≤ 4 := by
  unfold ownT at h
  split at h
  · cases h
  · rename_i h0
    cases h
    rcases nodeT_range k args with h1 | h1
    · exact absurd h1 h0
    · exact h1
theorem bindT_ok {R : TyR} {g : Int → TyR} {t : Int} (h : bindT R g = .ok t) : ∃ u, R = .ok u ∧ g u = .ok t := by
  cases R with
  | error b => cases h
  | ok u => exact ⟨u, rfl, h⟩
/-- Of what is right: where a node's expression begins, its type wherever it stands, its arguments. -/
theorem right_typ {l : List Qn} (h : rightQ l) {i : Nat} (hi : i < l.length) : ∃ b, begQ l i = some b ∧ b ≤ i ∧ rightQ ((l.drop b).take (i + 1 - b)) ∧ typQ l i = shiftT b (typQ ((l.drop b).take (i + 1 - b)) (i - b)) := by
  obtain ⟨b, h1, h2, h3, -⟩ := right_parts h hi
  refine ⟨b, h1, h2, h3, ?_⟩
  have hs := (right_sub.1 h3).2.2
  obtain ⟨R, hR⟩ := typ_sub hs
  have hlen : ((l.drop b).take (i + 1 - b)).length = i + 1 - b := by rw [List.length_take, List.length_drop]; omega
  have e1 : l.take b ++ ((l.drop b).take (i + 1 - b) ++ l.drop (i + 1)) = l := by
    have := List.take_append_drop (i + 1 - b) (l.drop b)
    rw [List.drop_drop, show b + (i + 1 - b) = i + 1 by omega] at this
    rw [this, List.take_append_drop]
  have e2 : (l.take b).length = b := by rw [List.length_take]; omega
  have a1 := hR (l.take b) (l.drop (i + 1))
  rw [e1, e2, hlen, show b + (i + 1 - b) - 1 = i by omega] at a1
  have a2 := hR [] []
  rw [List.nil_append, List.append_nil, List.length_nil, hlen, shiftT_zero, show 0 + (i + 1 - b) - 1 = i - b by omega] at a2
  rw [a1, a2]
theorem right_typed {l : List Qn} (h : rightQ l) (ht : OkT (typQ l (l.length - 1))) {i : Nat} (hi : i < l.length) : OkT (typQ l i) := by
  have hs := (right_sub.1 h).2.2
  have := typ_parts hs [] [] (by simpa using ht) i hi
  simpa using this
theorem typQ_range {l : List Qn} {i : Nat} (h0 : 0 < i ∨ argN (kindQ l i) ≤ 0) {t : Int} (h : typQ l i = .ok t) : 1 ≤ t ∧ t ≤ 4 := by
  by_cases h1 : argN (kindQ l i) = 1
  · rw [typQ_one h1 (by omega)] at h
    obtain ⟨u, -, h⟩ := bindT_ok h
    exact ownT_range h
  · by_cases h2 : argN (kindQ l i) = 2
    · have hi : 0 < i := by omega
      unfold typQ typF at h
      rw [if_neg h1, if_pos h2, if_neg (by omega)] at h
      obtain ⟨u, -, h⟩ := bindT_ok h
      obtain ⟨u2, -, h⟩ := bindT_ok h
      exact ownT_range h
    · rw [typQ_none h1 h2] at h
      exact ownT_range h
/-- A node whose last argument has no type has none. -/
theorem typ_arg {l : List Qn} (h : rightQ l) {i : Nat} (hi : i < l.length) (ha : 0 < argN (kindQ l i)) : 0 < i ∧ (OkT (typQ l i) → OkT (typQ l (i - 1))) := by
  obtain ⟨b, -, -, -, h4, h5⟩ := right_parts h hi
  rw [← kindQ_at hi] at h4 h5
  rcases argN_cases (kindQ l i) with e | e | e | e
  · omega
  · omega
  · have hi0 := (h4 e).1
    refine ⟨hi0, fun ⟨t, ht⟩ => ?_⟩
    rw [typQ_one e hi0] at ht
    obtain ⟨u, hu, -⟩ := bindT_ok ht
    exact ⟨u, hu⟩
  · obtain ⟨hi0, c, hc, -, -⟩ := h5 e
    refine ⟨hi0, fun ⟨t, ht⟩ => ?_⟩
    rw [typQ_two e hi0 hc] at ht
    obtain ⟨u, -, ht⟩ := bindT_ok ht
    obtain ⟨u2, hu, -⟩ := bindT_ok ht
    exact ⟨u2, hu⟩
/-- The type of a part. -/
theorem typeQ_part {l : List Qn} (h : rightQ l) {i b : Nat} (hi : i < l.length) (hb : begQ l i = some b) : (typeQ ((l.drop b).take (i + 1 - b))).2.2 ≠ 3 ∧ ((typeQ ((l.drop b).take (i + 1 - b))).2.2 = 0 ↔ OkT (typQ l i)) ∧ ∀ t, typQ l i = .ok t → typeQ ((l.drop b).take (i + 1 - b)) = (t, 0, 0) := by
  obtain ⟨b2, h1, h2, h3, h4⟩ := right_typ h hi
  rw [hb] at h1
  cases h1
  have hlen : ((l.drop b).take (i + 1 - b)).length = i + 1 - b := by rw [List.length_take, List.length_drop]; omega
  have e : ((l.drop b).take (i + 1 - b)).length - 1 = i - b := by omega
  cases hT : typQ ((l.drop b).take (i + 1 - b)) (i - b) with
  | ok t =>
    rw [hT] at h4
    have hq := typeQ_ok h3 (by rw [e]; exact hT)
    refine ⟨by rw [hq]; simp, ?_, fun t2 h5 => ?_⟩
    · rw [hq, h4]
      exact ⟨fun _ => ⟨t, rfl⟩, fun _ => rfl⟩
    · rw [h4] at h5
      cases h5
      exact hq
  | error x =>
    rw [hT] at h4
    have hq := typeQ_bad h3 (by rw [e]; exact hT)
    refine ⟨by rw [hq]; simp, ?_, fun t2 h5 => ?_⟩
    · rw [hq, h4]
      exact ⟨fun h => by simp at h, fun ⟨_, h⟩ => (by cases h)⟩
    · rw [h4] at h5
      cases h5
theorem typeQ_okT {l : List Qn} (h : rightQ l) (he : (typeQ l).2.2 = 0) : OkT (typQ l (l.length - 1)) := by
  cases e : typQ l (l.length - 1) with
  | ok t => exact ⟨t, rfl⟩
  | error b => rw [typeQ_bad h e] at he; simp at he
end Go.Proofs.Ytpcnfemjjlcjfaa
