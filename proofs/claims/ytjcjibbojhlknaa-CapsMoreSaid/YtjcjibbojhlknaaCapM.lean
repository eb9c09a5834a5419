/-
  Capabilities: plain facts on what a flow uses.
-/
import Derived.Test.YtjcjibbojhlknaaLabM
namespace Go.Proofs.Ytjcjibbojhlknaa

/-- What must be used, for the label with S a, I b to flow into the one with S c, I d. -/
def usedN (a b c d : Nat) : Nat := lessN a c ||| lessN d b
theorem usedN_lt {a d : Nat} (b c : Nat) (ha : a < 65536) (hd : d < 65536) : usedN a b c d < 65536 := or_lt (lessN_lt c ha) (lessN_lt b hd)
theorem usedN_bit {a b c d : Nat} (ha : a < 65536) (hb : b < 65536) (hc : c < 65536) (hd : d < 65536) (t : Nat) : (usedN a b c d).testBit t = ((a.testBit t && !c.testBit t) || (d.testBit t && !b.testBit t)) := by
  unfold usedN
  rw [Nat.testBit_or, lessN_bit ha hc, lessN_bit hd hb]
/-- By these capabilities the one flows into the other. -/
def capsB (a b c d k : Nat) : Bool := subB (usedN a b c d) k

theorem capsB_iff {a b c d k : Nat} (ha : a < 65536) (hb : b < 65536) (hc : c < 65536) (hd : d < 65536) : capsB a b c d k = true ↔ ∀ t, t < 16 → (a.testBit t = true → c.testBit t = false → k.testBit t = true) ∧ (d.testBit t = true → b.testBit t = false → k.testBit t = true) := by
  unfold capsB
  rw [subB_iff]
  constructor
  · intro h t ht
    have := h t ht
    rw [usedN_bit ha hb hc hd] at this
    constructor
    · intro h1 h2; exact this (by rw [h1, h2]; rfl)
    · intro h1 h2; exact this (by rw [h1, h2]; simp)
  · intro h t ht hu
    rw [usedN_bit ha hb hc hd, Bool.or_eq_true, Bool.and_eq_true, Bool.and_eq_true] at hu
    rcases hu with ⟨h1, h2⟩ | ⟨h1, h2⟩
    · exact (h t ht).1 h1 (by simpa using h2)
    · exact (h t ht).2 h1 (by simpa using h2)

/-- It flows by capabilities just when it flows once declassified, and endorsed, by all of them. -/
theorem capsB_hand {a b c d k : Nat} (ha : a < 65536) (hb : b < 65536) (hc : c < 65536) (hd : d < 65536) (hk : k < 65536) : flowsB (lessN a k) (b ||| k) c d = capsB a b c d k := by
  rw [Bool.eq_iff_iff, flowsB_iff, capsB_iff ha hb hc hd]
  constructor
  · intro h t ht
    have h1 := (h t ht).1
    have h2 := (h t ht).2
    rw [lessN_bit ha hk] at h1
    rw [Nat.testBit_or] at h2
    constructor
    · intro x y
      cases hkt : k.testBit t
      · have := h1 (by rw [x, hkt]; rfl); rw [y] at this; exact this
      · rfl
    · intro x y
      have := h2 x; rw [y] at this; simpa using this
  · intro h t ht
    have h1 := (h t ht).1
    have h2 := (h t ht).2
    rw [lessN_bit ha hk, Nat.testBit_or]
    constructor
    · intro x
      rw [Bool.and_eq_true] at x
      cases hct : c.testBit t
      · have := h1 x.1 hct; rw [this] at x; exact absurd x.2 (by decide)
      · rfl
    · intro x
      cases hbt : b.testBit t
      · rw [h2 x hbt]; rfl
      · rfl

theorem subB_zero_iff {a : Nat} (ha : a < 65536) : subB a 0 = decide (a = 0) := by
  rw [Bool.eq_iff_iff, decide_eq_true_eq]
  constructor
  · intro h
    exact subB_antisymm ha (by decide) h (subB_zero a)
  · intro h; rw [h]; exact subB_zero 0
theorem capsB_none {a b c d : Nat} (ha : a < 65536) (hb : b < 65536) (hc : c < 65536) (hd : d < 65536) : capsB a b c d 0 = flowsB a b c d := by
  rw [Bool.eq_iff_iff, flowsB_iff, capsB_iff ha hb hc hd]
  constructor
  · intro h t ht
    obtain ⟨h1, h2⟩ := h t ht
    constructor
    · intro x
      cases hct : c.testBit t
      · have := h1 x hct; simp at this
      · rfl
    · intro x
      cases hbt : b.testBit t
      · have := h2 x hbt; simp at this
      · rfl
  · intro h t ht
    obtain ⟨h1, h2⟩ := h t ht
    constructor
    · intro x y; rw [h1 x] at y; cases y
    · intro x y; rw [h2 x] at y; cases y
theorem capsB_all {a b c d : Nat} (ha : a < 65536) (hd : d < 65536) : capsB a b c d 65535 = true := subB_all (usedN_lt b c ha hd)
theorem capsB_used (a b c d : Nat) : capsB a b c d (usedN a b c d) = true := subB_refl _
theorem capsB_more {a b c d k : Nat} (l : Nat) (h : capsB a b c d k = true) : capsB a b c d (k ||| l) = true := subB_trans h (subB_or_left k l)
theorem used_zero {a b c d : Nat} (ha : a < 65536) (hb : b < 65536) (hc : c < 65536) (hd : d < 65536) : decide (usedN a b c d = 0) = flowsB a b c d := by
  rw [← capsB_none ha hb hc hd, ← subB_zero_iff (usedN_lt b c ha hd)]; rfl

/-- By hand: declassified and endorsed by what is used. -/
theorem less_less {a c : Nat} (ha : a < 65536) (hc : c < 65536) : lessN a (lessN a c) = a &&& c := and_less ha hc
theorem or_less {b d : Nat} (hb : b < 65536) (hd : d < 65536) : b ||| lessN d b = b ||| d := by
  apply Nat.eq_of_testBit_eq
  intro t
  rw [Nat.testBit_or, lessN_bit hd hb, Nat.testBit_or]
  cases b.testBit t <;> cases d.testBit t <;> rfl
theorem hand_flows (a b c d : Nat) : flowsB (a &&& c) (b ||| d) c d = true := flowsB_meet_right a b c d
theorem capsB_s {a b c d k : Nat} (h : capsB a b c d k = true) : subB (lessN a c) k = true := by
  have := h; unfold capsB usedN at this; rw [subB_or_iff, Bool.and_eq_true] at this; exact this.1
theorem capsB_i {a b c d k : Nat} (h : capsB a b c d k = true) : subB (lessN d b) k = true := by
  have := h; unfold capsB usedN at this; rw [subB_or_iff, Bool.and_eq_true] at this; exact this.2

end Go.Proofs.Ytjcjibbojhlknaa
