/-
  Graphs of sixteen roles in plain terms: who acts for whom within a set; all that any reach; a graph the other way round, and without the roles outside of a set.
-/
import Derived.Test.YtajilnoebhipbaaDoorSetM
import Derived.Test.YtajilnoebhipbaaDoorTexts
namespace Go.Proofs.YtajilnoebhipbaaDoor

/-- Does a act at once for b, within W? -/
def edgeB (f : Nat → Nat) (W a b : Nat) : Bool := W.testBit a && W.testBit b && (f a).testBit b
/-- a acts for b within W. -/
inductive Rch (f : Nat → Nat) (W : Nat) : Nat → Nat → Prop
  | refl {a : Nat} : W.testBit a = true → Rch f W a a
  | step {a b c : Nat} : Rch f W a b → edgeB f W b c = true → Rch f W a c
theorem edge_both {f : Nat → Nat} {W a b : Nat} (h : edgeB f W a b = true) : W.testBit a = true ∧ W.testBit b = true ∧ (f a).testBit b = true := by
  unfold edgeB at h; simpa [and_assoc] using h
theorem Rch.both {f : Nat → Nat} {W a b : Nat} (h : Rch f W a b) : W.testBit a = true ∧ W.testBit b = true := by
  induction h with
  | refl h => exact ⟨h, h⟩
  | step _ h2 ih => exact ⟨ih.1, (edge_both h2).2.1⟩
theorem Rch.trans {f : Nat → Nat} {W a b c : Nat} (h : Rch f W a b) (k : Rch f W b c) : Rch f W a c := by
  induction k with
  | refl _ => exact h
  | step _ h2 ih => exact .step ih h2
theorem Rch.one {f : Nat → Nat} {W a b : Nat} (h : edgeB f W a b = true) : Rch f W a b := .step (.refl (edge_both h).1) h
theorem Rch.ahead {f : Nat → Nat} {W a b c : Nat} (h : edgeB f W a b = true) (k : Rch f W b c) : Rch f W a c := (Rch.one h).trans k
theorem Rch.mono {f g : Nat → Nat} {W V a b : Nat} (he : ∀ x y, edgeB f W x y = true → edgeB g V x y = true) (hw : ∀ x, W.testBit x = true → V.testBit x = true) (h : Rch f W a b) : Rch g V a b := by
  induction h with
  | refl h => exact .refl (hw _ h)
  | step _ h2 ih => exact .step ih (he _ _ h2)

/-! How many bits are set. -/
def cntB (a : Nat) : Nat → Nat
  | 0 => 0
  | n + 1 => cntB a n + if a.testBit n then 1 else 0
theorem cntB_le (a n : Nat) : cntB a n ≤ n := by
  induction n with
  | zero => exact Nat.le_refl _
  | succ n ih => unfold cntB; split <;> omega
theorem cntB_mono {a b : Nat} (h : ∀ t, a.testBit t = true → b.testBit t = true) (n : Nat) : cntB a n ≤ cntB b n := by
  induction n with
  | zero => exact Nat.le_refl _
  | succ n ih =>
    unfold cntB
    by_cases ha : a.testBit n = true
    · rw [if_pos ha, if_pos (h n ha)]; omega
    · rw [if_neg ha]; omega
theorem cntB_lt {a b : Nat} (h : ∀ t, a.testBit t = true → b.testBit t = true) {n t : Nat} (ht : t < n) (hb : b.testBit t = true) (ha : a.testBit t = false) : cntB a n < cntB b n := by
  induction n with
  | zero => omega
  | succ n ih =>
    unfold cntB
    by_cases e : t = n
    · subst e
      rw [if_pos hb, if_neg (by rw [ha]; simp)]
      have := cntB_mono h t
      omega
    · have := ih (by omega)
      by_cases ha2 : a.testBit n = true
      · rw [if_pos ha2, if_pos (h n ha2)]; omega
      · rw [if_neg ha2]; omega
theorem cntB_pos {a n t : Nat} (ht : t < n) (h : a.testBit t = true) : 0 < cntB a n := by
  induction n with
  | zero => omega
  | succ n ih =>
    unfold cntB
    by_cases e : t = n
    · subst e; rw [if_pos h]; omega
    · have := ih (by omega); omega

/-! The document's walk, round by round. -/
def stepG (f : Nat → Nat) (W o a b : Nat) : Nat := if o.testBit a && edgeB f W a b then withN o b else o
def rowG (f : Nat → Nat) (W o a : Nat) : Nat → Nat
  | 0 => o
  | k + 1 => stepG f W (rowG f W o a k) a k
def sweepG (f : Nat → Nat) (W o : Nat) : Nat → Nat
  | 0 => o
  | k + 1 => rowG f W (sweepG f W o k) k 16
def downG (f : Nat → Nat) (W o : Nat) : Nat → Nat
  | 0 => o
  | k + 1 => sweepG f W (downG f W o k) 16
def downN (f : Nat → Nat) (s W : Nat) : Nat := downG f W (s &&& W) 16
def upG (f : Nat → Nat) (t W : Nat) : Nat → Nat
  | 0 => 0
  | k + 1 => if downN f (withN 0 k) W &&& t ≠ 0 then withN (upG f t W k) k else upG f t W k
def upN (f : Nat → Nat) (t W : Nat) : Nat := upG f t W 16
def turnG (f : Nat → Nat) (b : Nat) : Nat → Nat
  | 0 => 0
  | k + 1 => if (f k).testBit b then withN (turnG f b k) k else turnG f b k
def turnF (f : Nat → Nat) (b : Nat) : Nat := turnG f b 16
def cutF (f : Nat → Nat) (W a : Nat) : Nat := if W.testBit a then f a &&& W else 0

/-! What each step keeps. -/
def subT (a b : Nat) : Prop := ∀ t, a.testBit t = true → b.testBit t = true
theorem step_sub (f : Nat → Nat) (W o a b : Nat) : subT o (stepG f W o a b) := by
  intro t h
  unfold stepG
  split
  · rw [withN_bit, h]; rfl
  · exact h
theorem row_sub (f : Nat → Nat) (W o a k : Nat) : subT o (rowG f W o a k) := by
  induction k with
  | zero => exact fun t h => h
  | succ k ih => exact fun t h => step_sub f W _ a k t (ih t h)
theorem sweep_sub (f : Nat → Nat) (W o k : Nat) : subT o (sweepG f W o k) := by
  induction k with
  | zero => exact fun t h => h
  | succ k ih => exact fun t h => row_sub f W _ k 16 t (ih t h)
theorem down_sub (f : Nat → Nat) (W o k : Nat) : subT o (downG f W o k) := by
  induction k with
  | zero => exact fun t h => h
  | succ k ih => exact fun t h => sweep_sub f W _ 16 t (ih t h)
theorem sweep_more (f : Nat → Nat) (W o : Nat) {j k : Nat} (h : j ≤ k) : subT (sweepG f W o j) (sweepG f W o k) := by
  induction k with
  | zero => obtain rfl : j = 0 := by omega
            exact fun t h => h
  | succ k ih =>
    by_cases e : j = k + 1
    · subst e; exact fun t h => h
    · exact fun t ht => row_sub f W _ k 16 t (ih (by omega) t ht)
theorem row_more (f : Nat → Nat) (W o a : Nat) {j k : Nat} (h : j ≤ k) : subT (rowG f W o a j) (rowG f W o a k) := by
  induction k with
  | zero => obtain rfl : j = 0 := by omega
            exact fun t h => h
  | succ k ih =>
    by_cases e : j = k + 1
    · subst e; exact fun t h => h
    · exact fun t ht => step_sub f W _ a k t (ih (by omega) t ht)
theorem stepG_lt {f : Nat → Nat} {W o a b : Nat} (ho : o < 65536) (hb : b < 16) : stepG f W o a b < 65536 := by
  unfold stepG; split
  · exact withN_lt ho hb
  · exact ho
theorem rowG_lt {f : Nat → Nat} {W o a : Nat} (ho : o < 65536) {k : Nat} (hk : k ≤ 16) : rowG f W o a k < 65536 := by
  induction k with
  | zero => exact ho
  | succ k ih => exact stepG_lt (ih (by omega)) (by omega)
theorem sweepG_lt {f : Nat → Nat} {W o : Nat} (ho : o < 65536) (k : Nat) : sweepG f W o k < 65536 := by
  induction k with
  | zero => exact ho
  | succ k ih => exact rowG_lt ih (Nat.le_refl _)
theorem downG_lt {f : Nat → Nat} {W o : Nat} (ho : o < 65536) (k : Nat) : downG f W o k < 65536 := by
  induction k with
  | zero => exact ho
  | succ k ih => exact sweepG_lt ih 16
theorem downN_lt (f : Nat → Nat) {s : Nat} (W : Nat) (hs : s < 65536) : downN f s W < 65536 := downG_lt (and_lt W hs) 16
theorem upG_lt (f : Nat → Nat) (t W : Nat) {k : Nat} (hk : k ≤ 16) : upG f t W k < 65536 := by
  induction k with
  | zero => show (0 : Nat) < 65536; decide
  | succ k ih =>
    unfold upG; split
    · exact withN_lt (ih (by omega)) (by omega)
    · exact ih (by omega)
theorem upN_lt (f : Nat → Nat) (t W : Nat) : upN f t W < 65536 := upG_lt f t W (Nat.le_refl _)
theorem turnG_lt (f : Nat → Nat) (b : Nat) {k : Nat} (hk : k ≤ 16) : turnG f b k < 65536 := by
  induction k with
  | zero => show (0 : Nat) < 65536; decide
  | succ k ih =>
    unfold turnG; split
    · exact withN_lt (ih (by omega)) (by omega)
    · exact ih (by omega)
theorem turnF_lt (f : Nat → Nat) (b : Nat) : turnF f b < 65536 := turnG_lt f b (Nat.le_refl _)
theorem cutF_lt {f : Nat → Nat} {a : Nat} (W : Nat) (h : f a < 65536) : cutF f W a < 65536 := by
  unfold cutF; split
  · exact and_lt W h
  · decide

/-! What is reached. -/
/-- Each is reached from one of s. -/
def soundG (f : Nat → Nat) (s W o : Nat) : Prop := ∀ c, o.testBit c = true → ∃ a, s.testBit a = true ∧ Rch f W a c
theorem step_sound {f : Nat → Nat} {s W o a b : Nat} (h : soundG f s W o) : soundG f s W (stepG f W o a b) := by
  intro c hc
  unfold stepG at hc
  split at hc
  · rename_i he
    simp only [Bool.and_eq_true] at he
    rw [withN_bit, Bool.or_eq_true, decide_eq_true_eq] at hc
    rcases hc with hc | rfl
    · exact h c hc
    · obtain ⟨x, h1, h2⟩ := h a he.1
      exact ⟨x, h1, .step h2 he.2⟩
  · exact h c hc
theorem row_sound {f : Nat → Nat} {s W o a : Nat} (h : soundG f s W o) (k : Nat) : soundG f s W (rowG f W o a k) := by
  induction k with
  | zero => exact h
  | succ k ih => exact step_sound ih
theorem sweep_sound {f : Nat → Nat} {s W o : Nat} (h : soundG f s W o) (k : Nat) : soundG f s W (sweepG f W o k) := by
  induction k with
  | zero => exact h
  | succ k ih => exact row_sound ih 16
theorem down_sound {f : Nat → Nat} {s W o : Nat} (h : soundG f s W o) (k : Nat) : soundG f s W (downG f W o k) := by
  induction k with
  | zero => exact h
  | succ k ih => exact sweep_sound ih 16
def closedG (f : Nat → Nat) (W o : Nat) : Prop := ∀ a b, o.testBit a = true → edgeB f W a b = true → o.testBit b = true
theorem step_closed {f : Nat → Nat} {W o a b : Nat} (h : closedG f W o) : stepG f W o a b = o := by
  unfold stepG
  split
  · rename_i he
    simp only [Bool.and_eq_true] at he
    exact withN_same (h a b he.1 he.2)
  · rfl
theorem row_closed {f : Nat → Nat} {W o a : Nat} (h : closedG f W o) (k : Nat) : rowG f W o a k = o := by
  induction k with
  | zero => rfl
  | succ k ih => show stepG f W (rowG f W o a k) a k = o; rw [ih]; exact step_closed h
theorem sweep_closed {f : Nat → Nat} {W o : Nat} (h : closedG f W o) (k : Nat) : sweepG f W o k = o := by
  induction k with
  | zero => rfl
  | succ k ih => show rowG f W (sweepG f W o k) k 16 = o; rw [ih]; exact row_closed h 16
/-- A sweep takes each step from what was there. -/
theorem sweep_steps {f : Nat → Nat} {W o a b : Nat} (ha : a < 16) (hb : b < 16) (ho : o.testBit a = true) (he : edgeB f W a b = true) : (sweepG f W o 16).testBit b = true := by
  refine sweep_more f W o (show a + 1 ≤ 16 by omega) b ?_
  show (rowG f W (sweepG f W o a) a 16).testBit b = true
  refine row_more f W (sweepG f W o a) a (show b + 1 ≤ 16 by omega) b ?_
  show (stepG f W (rowG f W (sweepG f W o a) a b) a b).testBit b = true
  have h1 : (rowG f W (sweepG f W o a) a b).testBit a = true := row_sub f W _ a b a (sweep_sub f W o a a ho)
  unfold stepG
  rw [if_pos (by rw [h1, he]; rfl), withN_bit]
  simp
theorem down_close {f : Nat → Nat} {W o : Nat} (hW : W < 65536) (h0 : ∃ t, t < 16 ∧ o.testBit t = true) (i : Nat) : closedG f W (downG f W o i) ∨ i + 1 ≤ cntB (downG f W o i) 16 := by
  induction i with
  | zero =>
    obtain ⟨t, h1, h2⟩ := h0
    exact .inr (cntB_pos h1 h2)
  | succ i ih =>
    by_cases hc : closedG f W (downG f W o i)
    · exact .inl (by show closedG f W (sweepG f W (downG f W o i) 16); rw [sweep_closed hc]; exact hc)
    · right
      have hi := ih.resolve_left hc
      unfold closedG at hc
      obtain ⟨a, hc⟩ := Classical.not_forall.1 hc
      obtain ⟨b, hc⟩ := Classical.not_forall.1 hc
      simp only [Classical.not_imp] at hc
      obtain ⟨h1, h2, h3⟩ := hc
      have he := edge_both h2
      have hb : b < 16 := bit_lt hW he.2.1
      have := cntB_lt (sweep_sub f W (downG f W o i) 16) hb (sweep_steps (bit_lt hW he.1) hb h1 h2) (by simpa using h3)
      show i + 1 + 1 ≤ cntB (sweepG f W (downG f W o i) 16) 16
      omega
/-- Just those that any of s act for. -/
theorem downN_bit {f : Nat → Nat} {s W : Nat} (hW : W < 65536) (c : Nat) : (downN f s W).testBit c = true ↔ ∃ a, s.testBit a = true ∧ Rch f W a c := by
  constructor
  · refine down_sound (fun c hc => ?_) 16 c
    rw [Nat.testBit_and, Bool.and_eq_true] at hc
    exact ⟨c, hc.1, .refl hc.2⟩
  · rintro ⟨a, ha, hr⟩
    have h0 : (s &&& W).testBit a = true := by rw [Nat.testBit_and, ha, hr.both.1]; rfl
    have hc : closedG f W (downN f s W) := by
      rcases down_close (f := f) hW ⟨a, bit_lt hW hr.both.1, h0⟩ 16 with h | h
      · exact h
      · have := cntB_le (downG f W (s &&& W) 16) 16
        omega
    have hb : (downN f s W).testBit a = true := down_sub f W _ 16 a h0
    induction hr with
    | refl _ => exact hb
    | step _ h2 ih => exact hc _ _ ih h2
theorem upG_bit (f : Nat → Nat) (t W k a : Nat) : (upG f t W k).testBit a = (decide (a < k) && decide (downN f (withN 0 a) W &&& t ≠ 0)) := by
  induction k with
  | zero => simp [upG]
  | succ k ih =>
    unfold upG
    split
    · rename_i h
      rw [withN_bit, ih]
      by_cases e : k = a
      · subst e; simp only [decide_true, Bool.or_true]; rw [decide_eq_true (show k < k + 1 by omega), decide_eq_true h]; rfl
      · rw [show decide (k = a) = false by simpa using e, Bool.or_false, show decide (a < k + 1) = decide (a < k) by simp; omega]
    · rename_i h
      rw [ih]
      by_cases e : k = a
      · subst e; rw [decide_eq_false h]; simp
      · rw [show decide (a < k + 1) = decide (a < k) by simp; omega]
theorem and_ne {a b : Nat} : a &&& b ≠ 0 ↔ ∃ t, a.testBit t = true ∧ b.testBit t = true := by
  constructor
  · intro h
    obtain ⟨t, ht⟩ := Nat.exists_testBit_of_ne_zero h
    rw [Nat.testBit_and, Bool.and_eq_true] at ht
    exact ⟨t, ht⟩
  · rintro ⟨t, h1, h2⟩ e
    have : (a &&& b).testBit t = true := by rw [Nat.testBit_and, h1, h2]; rfl
    rw [e] at this
    simp at this
theorem one_bit (a t : Nat) : (withN 0 a).testBit t = decide (a = t) := by rw [withN_bit]; simp
theorem upN_bit {f : Nat → Nat} {t W : Nat} (hW : W < 65536) (a : Nat) : (upN f t W).testBit a = true ↔ ∃ c, t.testBit c = true ∧ Rch f W a c := by
  unfold upN
  rw [upG_bit, Bool.and_eq_true, decide_eq_true_eq, decide_eq_true_eq, and_ne]
  constructor
  · rintro ⟨-, c, h1, h2⟩
    obtain ⟨x, h3, h4⟩ := (downN_bit hW c).1 h1
    rw [one_bit, decide_eq_true_eq] at h3
    subst h3
    exact ⟨c, h2, h4⟩
  · rintro ⟨c, h1, h2⟩
    exact ⟨bit_lt hW h2.both.1, c, (downN_bit hW c).2 ⟨a, by rw [one_bit]; simp, h2⟩, h1⟩
theorem turnG_bit (f : Nat → Nat) (b k a : Nat) : (turnG f b k).testBit a = (decide (a < k) && (f a).testBit b) := by
  induction k with
  | zero => simp [turnG]
  | succ k ih =>
    unfold turnG
    split
    · rename_i h
      rw [withN_bit, ih]
      by_cases e : k = a
      · subst e; rw [h]; simp
      · rw [show decide (k = a) = false by simpa using e, Bool.or_false, show decide (a < k + 1) = decide (a < k) by simp; omega]
    · rename_i h
      rw [ih]
      by_cases e : k = a
      · subst e; rw [show (f k).testBit b = false by simpa using h]; simp
      · rw [show decide (a < k + 1) = decide (a < k) by simp; omega]
theorem turnF_bit (f : Nat → Nat) (b a : Nat) : (turnF f b).testBit a = (decide (a < 16) && (f a).testBit b) := turnG_bit f b 16 a
theorem turn_turn {f : Nat → Nat} {a : Nat} (ha : a < 16) (h : f a < 65536) : turnF (turnF f) a = f a := by
  apply Nat.eq_of_testBit_eq
  intro b
  rw [turnF_bit, turnF_bit, decide_eq_true ha, Bool.true_and]
  by_cases hb : b < 16
  · rw [decide_eq_true hb, Bool.true_and]
  · rw [decide_eq_false hb, Bool.false_and]
    cases hx : (f a).testBit b with
    | false => rfl
    | true => exact absurd (bit_lt h hx) hb
theorem cutF_bit (f : Nat → Nat) (W a b : Nat) : (cutF f W a).testBit b = edgeB f W a b := by
  unfold cutF edgeB
  cases W.testBit a with
  | true => rw [if_pos rfl, Nat.testBit_and, Bool.true_and, Bool.and_comm]
  | false => simp
end Go.Proofs.YtajilnoebhipbaaDoor
