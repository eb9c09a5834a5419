/-
  Sets of tags as natural numbers: plain facts on bits, of no program.
-/
import Derived.Lib.TrailingZeros
namespace Go.Proofs.YtcbphjdhafnkmaaDoor

/-- The tags of a set below n, rising. -/
def tagsTo (a : Nat) : Nat → List Nat
  | 0 => []
  | n + 1 => tagsTo a n ++ (if a.testBit n then [n] else [])
/-- The tags of a set. -/
def tagsN (a : Nat) : List Nat := tagsTo a 16

theorem mem_tagsTo (a : Nat) : ∀ n t, t ∈ tagsTo a n ↔ t < n ∧ a.testBit t = true
  | 0, t => by simp [tagsTo]
  | n + 1, t => by
    unfold tagsTo
    rw [List.mem_append, mem_tagsTo a n t]
    by_cases h : a.testBit n = true
    · simp only [h, if_true, List.mem_singleton]
      constructor
      · rintro (⟨h1, h2⟩ | rfl)
        · exact ⟨by omega, h2⟩
        · exact ⟨by omega, h⟩
      · rintro ⟨h1, h2⟩
        by_cases e : t = n
        · exact .inr e
        · exact .inl ⟨by omega, h2⟩
    · simp only [h, Bool.false_eq_true, if_false, List.not_mem_nil, or_false]
      constructor
      · rintro ⟨h1, h2⟩
        exact ⟨by omega, h2⟩
      · rintro ⟨h1, h2⟩
        refine ⟨?_, h2⟩
        by_cases e : t = n
        · subst e; exact absurd h2 h
        · omega

theorem tagsTo_congr {a b : Nat} : ∀ {n : Nat}, (∀ t, t < n → a.testBit t = b.testBit t) → tagsTo a n = tagsTo b n
  | 0, _ => rfl
  | n + 1, h => by
    unfold tagsTo
    rw [tagsTo_congr (n := n) (fun t ht => h t (by omega)), h n (by omega)]

/-- Below the lowest bit there is none. -/
theorem tagsTo_nil {a : Nat} : ∀ {n : Nat}, (∀ t, t < n → a.testBit t = false) → tagsTo a n = []
  | 0, _ => rfl
  | n + 1, h => by
    unfold tagsTo
    rw [tagsTo_nil (n := n) (fun t ht => h t (by omega)), h n (by omega)]
    rfl

/-- Taking away the lowest bit takes away the first tag. -/
theorem tagsTo_cons {a b k : Nat} (hk : a.testBit k = true) (hlow : ∀ t, t < k → a.testBit t = false) (hbk : b.testBit k = false) (hb : ∀ t, t ≠ k → b.testBit t = a.testBit t) :
    ∀ {n : Nat}, k < n → tagsTo a n = k :: tagsTo b n
  | 0, h => by omega
  | n + 1, h => by
    unfold tagsTo
    by_cases e : k = n
    · subst e
      have hb0 : tagsTo b k = [] := tagsTo_nil (fun t ht => by rw [hb t (by omega)]; exact hlow t ht)
      rw [tagsTo_nil hlow, hb0, hk, hbk]
      rfl
    · rw [tagsTo_cons hk hlow hbk hb (n := n) (by omega), hb n (fun h => e h.symm)]
      rfl

/-- A number is known by its bits: of tagsN, where both are below 2^16. -/
theorem tagsN_inj {a b : Nat} (ha : a < 65536) (hb : b < 65536) (h : tagsN a = tagsN b) : a = b := by
  apply Nat.eq_of_testBit_eq
  intro i
  by_cases hi : i < 16
  · have h1 := mem_tagsTo a 16 i
    have h2 := mem_tagsTo b 16 i
    unfold tagsN at h
    rw [h] at h1
    have : (i < 16 ∧ a.testBit i = true) ↔ (i < 16 ∧ b.testBit i = true) := h1.symm.trans h2
    by_cases e : a.testBit i = true
    · rw [e, (this.1 ⟨hi, e⟩).2]
    · by_cases e' : b.testBit i = true
      · exact absurd (this.2 ⟨hi, e'⟩).2 e
      · simp only [Bool.not_eq_true] at e e'; rw [e, e']
  · rw [Nat.testBit_lt_two_pow (Nat.lt_of_lt_of_le (show a < 2 ^ 16 from ha) (Nat.pow_le_pow_right (by decide) (by omega))), Nat.testBit_lt_two_pow (Nat.lt_of_lt_of_le (show b < 2 ^ 16 from hb) (Nat.pow_le_pow_right (by decide) (by omega)))]

/-- The lowest bit, and the number without it. -/
theorem low_spec (a : Nat) (h0 : a ≠ 0) (h1 : a < 65536) : ∃ k, k < 16 ∧ Lib.ctz 16 a = k ∧ a &&& (65536 - a) = 2 ^ k ∧ a.testBit k = true ∧ (∀ t, t < k → a.testBit t = false) ∧ (a &&& (a - 1)).testBit k = false ∧ ∀ t, t ≠ k → (a &&& (a - 1)).testBit t = a.testBit t := by
  obtain ⟨hlow, hk⟩ := Lib.lowest_bit 16 a h0 h1
  obtain ⟨m, hm, hk2⟩ := Lib.ctzFrom_spec 16 a (by omega) h1
  have hc : Lib.ctz 16 a = Lib.ctzFrom 16 a := by unfold Lib.ctz; rw [if_neg h0]
  refine ⟨Lib.ctz 16 a, hk, rfl, hlow, ?_⟩
  rw [hc]
  generalize Lib.ctzFrom 16 a = k at *
  clear hlow hk hc
  have hp : 0 < 2 ^ k := Nat.pow_pos (by decide)
  have e1 : a - 1 = 2 ^ k * (2 * m) + (2 ^ k - 1) := by
    rw [hm, Nat.mul_add, Nat.mul_one]; omega
  have ta : ∀ t, a.testBit t = (decide (k ≤ t) && (2 * m + 1).testBit (t - k)) := fun t => by
    rw [hm, Nat.mul_comm, Nat.testBit_mul_two_pow]
  have tb : ∀ t, (a - 1).testBit t = if t < k then true else (2 * m).testBit (t - k) := fun t => by
    rw [e1, Nat.testBit_two_pow_mul_add _ (by omega)]
    by_cases h : t < k
    · rw [if_pos h, if_pos h, Nat.testBit_two_pow_sub_one]; simp [h]
    · rw [if_neg h, if_neg h]
  refine ⟨?_, ?_, ?_, ?_⟩
  · rw [ta]; simp [Nat.testBit_zero]
  · intro t ht
    rw [ta]; simp; omega
  · rw [Nat.testBit_and, tb, if_neg (by omega)]; simp [Nat.testBit_zero]
  · intro t ht
    rw [Nat.testBit_and, tb, ta]
    by_cases h : t < k
    · have : ¬ k ≤ t := by omega
      simp [this]
    · rw [if_neg h]
      obtain ⟨j, rfl⟩ : ∃ j, t = k + (j + 1) := ⟨t - k - 1, by omega⟩
      have e3 : k + (j + 1) - k = j + 1 := by omega
      rw [e3, Nat.testBit_succ, Nat.testBit_succ]
      have d1 : (2 * m + 1) / 2 = m := by omega
      have d2 : 2 * m / 2 = m := by omega
      rw [d1, d2]
      simp

/-- One round of the iterator: the lowest bit first. -/
theorem tagsN_cons (a : Nat) (h0 : a ≠ 0) (h1 : a < 65536) : tagsN a = Lib.ctz 16 a :: tagsN (a &&& (a - 1)) := by
  obtain ⟨k, hk, hc, _, hk1, hk2, hk3, hk4⟩ := low_spec a h0 h1
  rw [hc]
  exact tagsTo_cons hk1 hk2 hk3 hk4 hk
theorem tagsN_zero : tagsN 0 = [] := by decide
theorem and_pred_lt (a : Nat) (h0 : a ≠ 0) : a &&& (a - 1) < a := Nat.lt_of_le_of_lt Nat.and_le_right (by omega)

theorem tagsTo_length_le (a : Nat) : ∀ n, (tagsTo a n).length ≤ n
  | 0 => by simp [tagsTo]
  | n + 1 => by
    unfold tagsTo
    rw [List.length_append]
    have := tagsTo_length_le a n
    split <;> simp <;> omega
theorem tagsN_length_le (a : Nat) : (tagsN a).length ≤ 16 := tagsTo_length_le a 16
theorem tagsN_ne_nil {a : Nat} (h0 : a ≠ 0) (h1 : a < 65536) : tagsN a ≠ [] := by rw [tagsN_cons a h0 h1]; simp

end Go.Proofs.YtcbphjdhafnkmaaDoor
