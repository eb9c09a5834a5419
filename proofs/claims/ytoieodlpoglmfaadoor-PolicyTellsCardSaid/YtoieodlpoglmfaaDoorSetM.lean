/-
  More plain facts on sets of tags: union, intersection, difference, tag by tag.
-/
import Derived.Test.YtoieodlpoglmfaaDoorTexts
namespace Go.Proofs.YtoieodlpoglmfaaDoor

/-- Those of the first that are not in the second. -/
def lessN (a b : Nat) : Nat := a &&& (65535 - b)
theorem not_bit {b : Nat} (hb : b < 65536) (t : Nat) : (65535 - b).testBit t = (decide (t < 16) && !b.testBit t) := by
  rw [show 65535 - b = 2 ^ 16 - (b + 1) by omega, Nat.testBit_two_pow_sub_succ hb]
theorem bit_lt {a t : Nat} (ha : a < 65536) (h : a.testBit t = true) : t < 16 := by
  rcases Nat.lt_or_ge t 16 with h1 | h1
  · exact h1
  · rw [Nat.testBit_lt_two_pow (Nat.lt_of_lt_of_le (show a < 2 ^ 16 from ha) (Nat.pow_le_pow_right (by decide) h1))] at h
    exact absurd h (by decide)
theorem lessN_bit {a b : Nat} (ha : a < 65536) (hb : b < 65536) (t : Nat) : (lessN a b).testBit t = (a.testBit t && !b.testBit t) := by
  unfold lessN
  rw [Nat.testBit_and, not_bit hb]
  cases h : a.testBit t
  · rfl
  · have := bit_lt ha h
    simp [this]
theorem lessN_lt {a : Nat} (b : Nat) (ha : a < 65536) : lessN a b < 65536 := Nat.lt_of_le_of_lt Nat.and_le_left ha
theorem or_lt {a b : Nat} (ha : a < 65536) (hb : b < 65536) : a ||| b < 65536 := Nat.or_lt_two_pow (n := 16) ha hb
theorem and_lt {a : Nat} (b : Nat) (ha : a < 65536) : a &&& b < 65536 := Nat.lt_of_le_of_lt Nat.and_le_left ha
theorem and_less {a b : Nat} (ha : a < 65536) (hb : b < 65536) : lessN a (lessN a b) = a &&& b := by
  apply Nat.eq_of_testBit_eq
  intro t
  rw [lessN_bit ha (lessN_lt b ha), lessN_bit ha hb, Nat.testBit_and]
  cases a.testBit t <;> cases b.testBit t <;> rfl

/-- What of a set lies below tag k. -/
def lowN (a k : Nat) : Nat := a % 2 ^ k
theorem lowN_zero (a : Nat) : lowN a 0 = 0 := by unfold lowN; rw [Nat.pow_zero, Nat.mod_one]
theorem lowN_all {a : Nat} (ha : a < 65536) : lowN a 16 = a := Nat.mod_eq_of_lt ha
theorem lowN_lt {a : Nat} (k : Nat) (ha : a < 65536) : lowN a k < 65536 := Nat.lt_of_le_of_lt (Nat.mod_le _ _) ha
theorem lowN_bit (a k t : Nat) : (lowN a k).testBit t = (decide (t < k) && a.testBit t) := Nat.testBit_mod_two_pow a k t
theorem lowN_yes {a k : Nat} (h : a.testBit k = true) : lowN a (k + 1) = withN (lowN a k) k := by
  apply Nat.eq_of_testBit_eq
  intro t
  rw [lowN_bit, withN_bit, lowN_bit]
  by_cases e : k = t
  · subst e; simp [h]
  · rcases Nat.lt_or_ge t k with h1 | h1
    · simp [h1, show t < k + 1 by omega, e]
    · simp [show ¬ t < k by omega, show ¬ t < k + 1 by omega, e]
theorem lowN_no {a k : Nat} (h : a.testBit k = false) : lowN a (k + 1) = lowN a k := by
  apply Nat.eq_of_testBit_eq
  intro t
  rw [lowN_bit, lowN_bit]
  by_cases e : k = t
  · subst e; simp [h]
  · rcases Nat.lt_or_ge t k with h1 | h1
    · simp [h1, show t < k + 1 by omega]
    · simp [show ¬ t < k by omega, show ¬ t < k + 1 by omega]
/-- Union, up to tag k of the second. -/
def orTo (a b k : Nat) : Nat := a ||| lowN b k
theorem orTo_zero (a b : Nat) : orTo a b 0 = a := by unfold orTo; rw [lowN_zero, Nat.or_zero]
theorem orTo_all {a b : Nat} (hb : b < 65536) : orTo a b 16 = a ||| b := by unfold orTo; rw [lowN_all hb]
theorem orTo_lt {a b : Nat} (k : Nat) (ha : a < 65536) (hb : b < 65536) : orTo a b k < 65536 := or_lt ha (lowN_lt k hb)
theorem orTo_yes {a b k : Nat} (h : b.testBit k = true) : orTo a b (k + 1) = withN (orTo a b k) k := by
  unfold orTo; rw [lowN_yes h]; unfold withN; rw [Nat.or_assoc]
theorem orTo_no {a b k : Nat} (h : b.testBit k = false) : orTo a b (k + 1) = orTo a b k := by unfold orTo; rw [lowN_no h]

/-- One set within another one, as plain inclusions. -/
theorem subB_bits {a b : Nat} (ha : a < 65536) : subB a b = true ↔ ∀ t, a.testBit t = true → b.testBit t = true := by
  rw [subB_iff]
  exact ⟨fun h t ht => h t (bit_lt ha ht) ht, fun h t _ ht => h t ht⟩
theorem subB_or {a b : Nat} (ha : a < 65536) : subB a b = true ↔ a ||| b = b := by
  rw [subB_bits ha]
  constructor
  · intro h
    apply Nat.eq_of_testBit_eq
    intro t
    rw [Nat.testBit_or]
    cases h1 : a.testBit t
    · rfl
    · rw [h t h1]; rfl
  · intro h t ht
    rw [← h, Nat.testBit_or, ht]; rfl
theorem subB_refl (a : Nat) : subB a a = true := by rw [subB_iff]; exact fun _ _ h => h
theorem subB_trans {a b c : Nat} (h1 : subB a b = true) (h2 : subB b c = true) : subB a c = true := by
  rw [subB_iff] at *; exact fun t ht h => h2 t ht (h1 t ht h)
theorem subB_antisymm {a b : Nat} (ha : a < 65536) (hb : b < 65536) (h1 : subB a b = true) (h2 : subB b a = true) : a = b := by
  rw [subB_bits ha] at h1; rw [subB_bits hb] at h2
  apply Nat.eq_of_testBit_eq
  intro t
  rw [Bool.eq_iff_iff]
  exact ⟨h1 t, h2 t⟩
theorem subB_zero (b : Nat) : subB 0 b = true := by rw [subB_iff]; intro t _ h; simp at h
theorem subB_all {a : Nat} (ha : a < 65536) : subB a 65535 = true := by
  rw [subB_bits ha]
  intro t h
  have := bit_lt ha h
  rw [show (65535 : Nat) = 2 ^ 16 - 1 from rfl, Nat.testBit_two_pow_sub_one]
  simp [this]
theorem subB_or_left (a b : Nat) : subB a (a ||| b) = true := by rw [subB_iff]; intro t _ h; rw [Nat.testBit_or, h]; rfl
theorem subB_or_right (a b : Nat) : subB b (a ||| b) = true := by rw [subB_iff]; intro t _ h; rw [Nat.testBit_or, h]; simp
theorem subB_and_left (a b : Nat) : subB (a &&& b) a = true := by rw [subB_iff]; intro t _ h; rw [Nat.testBit_and] at h; simp at h; exact h.1
theorem subB_and_right (a b : Nat) : subB (a &&& b) b = true := by rw [subB_iff]; intro t _ h; rw [Nat.testBit_and] at h; simp at h; exact h.2
theorem subB_or_iff (a b c : Nat) : subB (a ||| b) c = (subB a c && subB b c) := by
  rw [Bool.eq_iff_iff, Bool.and_eq_true, subB_iff, subB_iff, subB_iff]
  constructor
  · intro h
    exact ⟨fun t ht h1 => h t ht (by rw [Nat.testBit_or, h1]; rfl), fun t ht h1 => h t ht (by rw [Nat.testBit_or, h1]; simp)⟩
  · rintro ⟨h1, h2⟩ t ht h
    rw [Nat.testBit_or] at h
    cases h3 : a.testBit t
    · rw [h3] at h; exact h2 t ht (by simpa using h)
    · exact h1 t ht h3
theorem subB_and_iff (a b c : Nat) : subB c (a &&& b) = (subB c a && subB c b) := by
  rw [Bool.eq_iff_iff, Bool.and_eq_true, subB_iff, subB_iff, subB_iff]
  constructor
  · intro h
    exact ⟨fun t ht h1 => by have := h t ht h1; rw [Nat.testBit_and] at this; simp at this; exact this.1, fun t ht h1 => by have := h t ht h1; rw [Nat.testBit_and] at this; simp at this; exact this.2⟩
  · rintro ⟨h1, h2⟩ t ht h
    rw [Nat.testBit_and, h1 t ht h, h2 t ht h]; rfl

end Go.Proofs.YtoieodlpoglmfaaDoor
