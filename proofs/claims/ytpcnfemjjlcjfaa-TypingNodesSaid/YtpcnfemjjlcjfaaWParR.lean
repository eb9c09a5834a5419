/-
  Nodes that are right: their parts.
-/
import Derived.Test.YtpcnfemjjlcjfaaWParN
/-! ParR -/
namespace Go.Proofs.Ytpcnfemjjlcjfaa
open Go.RowKit

theorem begF_le : ∀ (f : Nat) (l : List Qn) (i b : Nat), begF f l i = some b → b ≤ i
  | 0, _, _, _, h => by cases h
  | f + 1, l, i, b, h => by
    unfold begF at h
    split at h
    · split at h
      · cases h
      · have := begF_le f l (i - 1) b h
        omega
    · split at h
      · split at h
        · cases h
        · split at h
          · cases h
          · rename_i a ea
            split at h
            · cases h
            · have h1 := begF_le f l (i - 1) a ea
              have h2 := begF_le f l (a - 1) b h
              omega
      · cases h
        exact Nat.le_refl _
/-- Enough steps are enough. -/
theorem begF_fuel : ∀ (f g : Nat) (l : List Qn) (i : Nat), i < f → i < g → begF f l i = begF g l i
  | 0, _, _, _, h, _ => absurd h (by omega)
  | _ + 1, 0, _, _, _, h => absurd h (by omega)
  | f + 1, g + 1, l, i, h, k => by
    unfold begF
    split
    · split
      · rfl
      · exact begF_fuel f g l (i - 1) (by omega) (by omega)
    · split
      · split
        · rfl
        · have e := begF_fuel f g l (i - 1) (by omega) (by omega)
          rw [e]
          cases eb : begF g l (i - 1) with
          | none => rfl
          | some a =>
            simp only
            split
            · rfl
            · have := begF_le _ _ _ _ eb
              exact begF_fuel f g l (a - 1) (by omega) (by omega)
      · rfl
def begQ (l : List Qn) (i : Nat) : Option Nat := begF (i + 1) l i
theorem begQ_one {l : List Qn} {i : Nat} (h : argN (kindQ l i) = 1) (hi : 0 < i) : begQ l i = begQ l (i - 1) := by
  unfold begQ
  rw [begF.eq_def (i + 1)]
  simp only
  rw [if_pos h, if_neg (by omega)]
  exact begF_fuel _ _ _ _ (by omega) (by omega)
theorem begQ_two {l : List Qn} {i : Nat} (h : argN (kindQ l i) = 2) (hi : 0 < i) : begQ l i = match begQ l (i - 1) with
    | none => none
    | some a => if a < 1 then none else begQ l (a - 1) := by
  unfold begQ
  rw [begF.eq_def (i + 1)]
  simp only
  rw [if_neg (by rw [h]; decide), if_pos h, if_neg (by omega), begF_fuel i (i - 1 + 1) l (i - 1) (by omega) (by omega)]
  cases eb : begF (i - 1 + 1) l (i - 1) with
  | none => rfl
  | some a =>
    simp only
    split
    · rfl
    · have := begF_le _ _ _ _ eb
      exact begF_fuel _ _ _ _ (by omega) (by omega)
/-- In what is right each node has its arguments. -/
theorem sub_parts {s : List Qn} (h : SubQ s) : ∀ (pre post : List Qn) (i : Nat), i < s.length → ∃ b, begQ (pre ++ (s ++ post)) (pre.length + i) = some b ∧ pre.length ≤ b := by
  have last : ∀ {s : List Qn}, SubQ s → ∀ (pre post : List Qn), begQ (pre ++ (s ++ post)) (pre.length + s.length - 1) = some pre.length := fun {s} h pre post => by
    have hn := h.ne
    have e := beg_sub h pre post (pre.length + s.length - 1 + 1) (by omega)
    exact e
  induction h with
  | @leaf x hx =>
    intro pre post i hi
    simp only [List.length_cons, List.length_nil] at hi
    have e := last (.leaf hx) pre post
    rw [show pre.length + [x].length - 1 = pre.length + i by simp; omega] at e
    exact ⟨_, e, Nat.le_refl _⟩
  | @one a x ha hx ih =>
    intro pre post i hi
    simp only [List.length_append, List.length_cons, List.length_nil] at hi
    by_cases h : i < a.length
    · obtain ⟨b, e, hb⟩ := ih pre ([x] ++ post) i h
      rw [show a ++ [x] ++ post = a ++ ([x] ++ post) by simp]
      exact ⟨b, e, hb⟩
    · have e := last (.one ha hx) pre post
      rw [show pre.length + (a ++ [x]).length - 1 = pre.length + i by simp only [List.length_append, List.length_cons, List.length_nil]; omega] at e
      exact ⟨_, e, Nat.le_refl _⟩
  | @two a b x ha hb hx iha ihb =>
    intro pre post i hi
    simp only [List.length_append, List.length_cons, List.length_nil] at hi
    by_cases h : i < a.length
    · obtain ⟨c, e, hc⟩ := iha pre (b ++ [x] ++ post) i h
      rw [show a ++ b ++ [x] ++ post = a ++ (b ++ [x] ++ post) by simp]
      exact ⟨c, e, hc⟩
    · by_cases h2 : i < a.length + b.length
      · obtain ⟨c, e, hc⟩ := ihb (pre ++ a) ([x] ++ post) (i - a.length) (by omega)
        rw [show pre ++ (a ++ b ++ [x] ++ post) = pre ++ a ++ (b ++ ([x] ++ post)) by simp]
        rw [List.length_append] at e hc
        rw [show pre.length + a.length + (i - a.length) = pre.length + i by omega] at e
        exact ⟨c, e, by omega⟩
      · have e := last (.two ha hb hx) pre post
        rw [show pre.length + (a ++ b ++ [x]).length - 1 = pre.length + i by simp only [List.length_append, List.length_cons, List.length_nil]; omega] at e
        exact ⟨_, e, Nat.le_refl _⟩
theorem begQ_back {l : List Qn} {i b : Nat} (hi : i < l.length) (hall : ∀ x ∈ l, fineQ x) (h : begQ l i = some b) : b ≤ i ∧ SubQ ((l.drop b).take (i + 1 - b)) := beg_back _ _ _ _ hi (fun x hx => (hall x hx).1) h
/-- Each part of what is right is right itself, and has just its arguments ahead. -/
theorem right_parts {l : List Qn} (h : rightQ l) {i : Nat} (hi : i < l.length) : ∃ b, begQ l i = some b ∧ b ≤ i ∧ rightQ ((l.drop b).take (i + 1 - b)) ∧ (argN l[i].kind = 1 → 0 < i ∧ begQ l (i - 1) = some b) ∧ (argN l[i].kind = 2 → 0 < i ∧ ∃ c, begQ l (i - 1) = some c ∧ b < c ∧ begQ l (c - 1) = some b) := by
  obtain ⟨h1, h2, h3⟩ := right_sub.1 h
  have each : ∀ j, j < l.length → ∃ b, begQ l j = some b := fun j hj => by
    obtain ⟨b, e, -⟩ := sub_parts h3 [] [] j hj
    simp only [List.nil_append, List.append_nil, List.length_nil, Nat.zero_add] at e
    exact ⟨b, e⟩
  obtain ⟨b, hb⟩ := each i hi
  obtain ⟨p1, p2⟩ := begQ_back hi h1 hb
  refine ⟨b, hb, p1, right_sub.2 ⟨fun x hx => h1 x (List.mem_of_mem_drop (List.mem_of_mem_take hx)), ?_, p2⟩, ?_, ?_⟩
  · rw [List.length_take, List.length_drop]; omega
  · intro ha
    have hk : argN (kindQ l i) = 1 := by rw [kindQ_at hi]; exact ha
    have hp : 0 < i := by
      rcases Nat.eq_zero_or_pos i with e | e
      · exfalso
        unfold begQ at hb
        rw [begF.eq_def (i + 1)] at hb
        simp only at hb
        rw [if_pos hk, if_pos (by omega)] at hb
        cases hb
      · exact e
    exact ⟨hp, by rw [← begQ_one hk hp]; exact hb⟩
  · intro ha
    have hk : argN (kindQ l i) = 2 := by rw [kindQ_at hi]; exact ha
    have hp : 0 < i := by
      rcases Nat.eq_zero_or_pos i with e | e
      · exfalso
        unfold begQ at hb
        rw [begF.eq_def (i + 1)] at hb
        simp only at hb
        rw [if_neg (by rw [hk]; decide), if_pos hk, if_pos (by omega)] at hb
        cases hb
      · exact e
    refine ⟨hp, ?_⟩
    obtain ⟨c, hc⟩ := each (i - 1) (by omega)
    rw [begQ_two hk hp, hc] at hb
    simp only at hb
    split at hb
    · cases hb
    · have := begF_le _ _ _ _ hb
      exact ⟨c, hc, by omega, hb⟩
end Go.Proofs.Ytpcnfemjjlcjfaa
